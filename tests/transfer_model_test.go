package tests

import (
	"math"
	"slices"
	"testing"

	"loop.example/ringoverlay/impl"
)

// notWindows are numbers that are not windows, the nearest and the farthest ones among them.
var notWindows = []int{-1, 21, 22, -20, 100, math.MinInt, math.MinInt + 1, math.MaxInt - 20, math.MaxInt - 1, math.MaxInt}

func transfer(items []int, next, acked int) impl.Transfer {
	return impl.Transfer{Items: items, Next: next, Acked: acked}
}

func chunk(at int, items ...int) impl.Chunk {
	return impl.Chunk{At: at, Items: items}
}

func sameTransfer(a, b impl.Transfer) bool {
	return slices.Equal(a.Items, b.Items) && a.Next == b.Next && a.Acked == b.Acked
}

func sameChunk(a, b impl.Chunk) bool {
	return a.At == b.At && slices.Equal(a.Items, b.Items)
}

// manyItems returns different items, both ends of the range first.
func manyItems(many int) []int {
	items := []int{}
	for i := range many {
		items = append(items, []int{i / 2, 990 - i/2}[i%2])
	}
	return items
}

// itemLists returns the items of transfers of all sizes: different ones, equal ones, and few different ones.
func itemLists() [][]int {
	random, lists := spread(5), [][]int{}
	for many := range 21 {
		few := []int{}
		for range many {
			few = append(few, 989+random.below(2))
		}
		lists = append(lists, manyItems(many), slices.Repeat([]int{0}, many), slices.Repeat([]int{990}, many), few)
	}
	return lists
}

// badItemLists returns lists that have too many items, or one that is out of range at each place.
func badItemLists() [][]int {
	lists := [][]int{manyItems(21), manyItems(22), manyItems(24), manyItems(40), make([]int, 21), make([]int, 1000)}
	for _, many := range []int{1, 2, 3, 4, 5, 19, 20, 21} {
		for i := range many {
			for _, n := range notSums {
				lists = append(lists, replacedAt(manyItems(many), i, n))
			}
		}
	}
	return lists
}

// eachTransfer calls check with all transfers of different items that are valid.
func eachTransfer(check func(x impl.Transfer)) {
	for many := range 21 {
		for next := range many + 1 {
			for acked := range next + 1 {
				check(transfer(manyItems(many), next, acked))
			}
		}
	}
}

// eachSend calls check with these transfers and all windows.
func eachSend(check func(x impl.Transfer, window int)) {
	eachTransfer(func(x impl.Transfer) {
		for window := range 21 {
			check(x, window)
		}
	})
}

// eachAck calls check with these transfers and all numbers of items that may be acknowledged.
func eachAck(check func(x impl.Transfer, n int)) {
	eachTransfer(func(x impl.Transfer) {
		for n := range x.Next + 1 {
			check(x, n)
		}
	})
}

// indexPairs has values of Next and Acked of which at least one is out of range in a transfer of many items.
func indexPairs(many int) [][2]int {
	pairs := [][2]int{{many + 1, 0}, {many + 1, many}, {many + 1, many + 1}, {-1, -1}, {-1, 0}, {0, -1}, {0, 1}, {many, -1}, {many, many + 1}, {many + 2, many - 1}}
	for next := range many {
		pairs = append(pairs, [2]int{next, next + 1}, [2]int{next, many}, [2]int{next, -1})
	}
	for _, n := range []int{math.MinInt, math.MinInt + 1, -many - 1, math.MaxInt - 1, math.MaxInt} {
		pairs = append(pairs, [2]int{n, 0}, [2]int{0, n}, [2]int{many, n}, [2]int{n, many}, [2]int{n, n}, [2]int{n, math.MinInt}, [2]int{math.MaxInt, n})
	}
	return pairs
}

// badTransfers returns transfers in which an index or an item is out of range, or that have too many items.
func badTransfers() []impl.Transfer {
	bad := []impl.Transfer{}
	for _, many := range []int{0, 1, 2, 4, 5, 19, 20} {
		for _, pair := range indexPairs(many) {
			bad = append(bad, transfer(manyItems(many), pair[0], pair[1]))
		}
	}
	for _, items := range badItemLists() {
		for _, pair := range [][2]int{{0, 0}, {1, 0}, {1, 1}, {len(items), 0}, {len(items), len(items)}} {
			bad = append(bad, transfer(items, pair[0], pair[1]))
		}
	}
	return bad
}

// eachPut calls check with received items and chunks that are valid: those that fit, and those in which one item differs.
func eachPut(check func(got []int, c impl.Chunk)) {
	all := manyItems(20)
	for received := range 21 {
		for many := 1; many <= 4; many++ {
			for at := range 20 - many + 1 {
				items := all[at : at+many]
				check(all[:received], chunk(at, items...))
				for i := range items {
					check(all[:received], chunk(at, replacedAt(items, i, 500)...))
				}
			}
		}
	}
}

// badChunks returns chunks that have no items, too many, one that is out of range, or items at indexes that no transfer has.
func badChunks() []impl.Chunk {
	bad := []impl.Chunk{}
	for at := -2; at <= 22; at++ {
		bad = append(bad, chunk(at), impl.Chunk{At: at, Items: nil}, chunk(at, 0, 990, 1, 989, 2), chunk(at, manyItems(20)...), chunk(at, manyItems(21)...))
	}
	for many := 1; many <= 4; many++ {
		for _, at := range []int{-1, -2, -4, -20, -21, 21 - many, 22 - many, 20, 21, 100, math.MinInt, math.MinInt + 1, math.MaxInt - 4, math.MaxInt - 1, math.MaxInt} {
			bad = append(bad, chunk(at, manyItems(many)...))
		}
		for i := range many {
			for _, n := range notSums {
				bad = append(bad, chunk(0, replacedAt(manyItems(many), i, n)...), chunk(20-many, replacedAt(manyItems(many), i, n)...))
			}
		}
	}
	return bad
}

// modelSend moves one item after the other into the chunk.
func modelSend(x impl.Transfer, window int) (impl.Transfer, impl.Chunk, bool) {
	c := impl.Chunk{At: x.Next}
	for x.Next < len(x.Items) && len(c.Items) < 4 && x.Next-x.Acked < window {
		c.Items = append(c.Items, x.Items[x.Next])
		x.Next++
	}
	if len(c.Items) == 0 {
		return x, impl.Chunk{}, false
	}
	return x, c, true
}

// modelAck acknowledges one item after the other.
func modelAck(x impl.Transfer, n int) (impl.Transfer, bool) {
	ok := n >= x.Acked
	for x.Acked < n {
		x.Acked++
	}
	return x, ok
}

// modelPut puts one item after the other at its index.
func modelPut(got []int, c impl.Chunk) ([]int, bool) {
	result := slices.Clone(got)
	for i, item := range c.Items {
		switch index := c.At + i; {
		case index > len(result):
			return got, false
		case index == len(result):
			result = append(result, item)
		case result[index] != item:
			return got, false
		}
	}
	return result, true
}

// delivery is a whole transfer: the sending side, and the items that were received.
type delivery struct {
	sender   impl.Transfer
	received []int
	chunks   int // that were sent
}

// newDelivery requires that a transfer of the items can begin.
func newDelivery(t *testing.T, items []int) *delivery {
	t.Helper()
	sender, ok := impl.TransferNew(items)
	if !ok {
		t.Fatalf("TransferNew(%v) fails", items)
	}
	return &delivery{sender: sender}
}

// send sends a chunk and puts it to the received items, which must accept it. It returns the number of items that this acknowledges, and whether there was a chunk.
func (d *delivery) send(t *testing.T, window int) (int, bool) {
	t.Helper()
	sender, c, ok := impl.TransferSend(d.sender, window)
	if !ok {
		return 0, false
	}
	received, fits := impl.ChunkPut(d.received, c)
	if !fits {
		t.Fatalf("TransferSend(%v, %d) returns the chunk %v, which does not fit to %v", d.sender, window, c, d.received)
	}
	d.sender, d.received = sender, received
	d.chunks++
	return c.At + len(c.Items), true
}

// acknowledge requires that the sending side accepts an acknowledgement.
func (d *delivery) acknowledge(t *testing.T, n int) {
	t.Helper()
	sender, ok := impl.TransferAck(d.sender, n)
	if !ok {
		t.Fatalf("TransferAck(%v, %d) fails", d.sender, n)
	}
	d.sender = sender
}

// done reports whether all items are acknowledged.
func (d *delivery) done() bool {
	return d.sender.Acked == len(d.sender.Items)
}

// checkWhole requires that exactly the items were received and acknowledged, and that there is nothing to be sent.
func (d *delivery) checkWhole(t *testing.T, items []int) {
	t.Helper()
	if !slices.Equal(d.received, items) || !sameTransfer(d.sender, transfer(items, len(items), len(items))) {
		t.Fatalf("the items %v are sent by %v, but %v are received", items, d.sender, d.received)
	}
	if _, c, ok := impl.TransferSend(d.sender, 20); ok {
		t.Fatalf("all items of %v are acknowledged, but TransferSend returns the chunk %v", d.sender, c)
	}
}
