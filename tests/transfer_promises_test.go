package tests

import (
	"slices"
	"testing"

	"loop.example/ringoverlay/impl"
)

// eachSent calls check for the calls of eachSend that succeed.
func eachSent(t *testing.T, check func(x, got impl.Transfer, window int, c impl.Chunk)) {
	t.Helper()
	count := 0
	eachSend(func(x impl.Transfer, window int) {
		if got, c, ok := impl.TransferSend(x, window); ok {
			count++
			check(x, got, window, c)
		}
	})
	succeeded(t, count)
}

// eachAdded calls check for the calls of eachPut that succeed.
func eachAdded(t *testing.T, check func(got []int, c impl.Chunk, result []int)) {
	t.Helper()
	count := 0
	eachPut(func(got []int, c impl.Chunk) {
		if result, ok := impl.ChunkPut(got, c); ok {
			count++
			check(got, c, result)
		}
	})
	succeeded(t, count)
}

func TestPromise102(t *testing.T) {
	count := 0
	for _, items := range append(itemLists(), badItemLists()...) {
		got, ok := impl.TransferNew(items)
		if !ok {
			continue
		}
		count++
		if !impl.TransferValid(got) || got.Next != 0 || got.Acked != 0 || !slices.Equal(got.Items, items) {
			t.Errorf("TransferNew(%v) = %v", items, got)
		}
	}
	if count != len(itemLists()) {
		t.Errorf("%d of %d transfers begin", count, len(itemLists()))
	}
}

func TestPromise103(t *testing.T) {
	eachSent(t, func(x, got impl.Transfer, window int, c impl.Chunk) {
		many := len(c.Items)
		if many < 1 || many > impl.MaxChunk || c.At != x.Next || got.Next != x.Next+many || !slices.Equal(c.Items, x.Items[x.Next:got.Next]) {
			t.Fatalf("TransferSend(%v, %d) = %v, %v", x, window, got, c)
		}
		if !slices.Equal(got.Items, x.Items) || got.Acked != x.Acked {
			t.Fatalf("TransferSend(%v, %d) changes the items or the acknowledgements: %v", x, window, got)
		}
	})
}

func TestPromise104(t *testing.T) {
	eachSent(t, func(x, got impl.Transfer, window int, c impl.Chunk) {
		if got.Next-got.Acked > window {
			t.Fatalf("TransferSend(%v, %d) = %v, %v", x, window, got, c)
		}
	})
}

func TestPromise105(t *testing.T) {
	failed := 0
	eachSend(func(x impl.Transfer, window int) {
		got, c, ok := impl.TransferSend(x, window)
		if fails := x.Next == len(x.Items) || x.Next-x.Acked >= window; ok == fails {
			t.Fatalf("TransferSend(%v, %d) = %v, %v, %v", x, window, got, c, ok)
		}
		if ok {
			return
		}
		failed++
		if !sameTransfer(got, x) || !sameChunk(c, impl.Chunk{}) {
			t.Fatalf("TransferSend(%v, %d) fails, but returns %v, %v", x, window, got, c)
		}
	})
	succeeded(t, failed)
}

func TestPromise106(t *testing.T) {
	eachAck(func(x impl.Transfer, n int) {
		got, ok := impl.TransferAck(x, n)
		if want := transfer(x.Items, x.Next, max(x.Acked, n)); !sameTransfer(got, want) || ok != (n >= x.Acked) {
			t.Fatalf("TransferAck(%v, %d) = %v, %v", x, n, got, ok)
		}
	})
}

func TestPromise107(t *testing.T) {
	eachTransfer(func(x impl.Transfer) {
		got := impl.TransferResume(x)
		if !sameTransfer(got, transfer(x.Items, x.Acked, x.Acked)) {
			t.Fatalf("TransferResume(%v) = %v", x, got)
		}
		if again := impl.TransferResume(got); !sameTransfer(again, got) {
			t.Fatalf("TransferResume(%v) = %v, and then %v", x, got, again)
		}
	})
}

// Each chunk is acknowledged at once; the chunks are as many as the items need.
func TestPromise108(t *testing.T) {
	for _, items := range itemLists() {
		for window := 1; window <= 20; window++ {
			d := newDelivery(t, items)
			for n, ok := d.send(t, window); ok; n, ok = d.send(t, window) {
				d.acknowledge(t, n)
			}
			d.checkWhole(t, items)
			if size := min(window, 4); d.chunks != (len(items)+size-1)/size {
				t.Fatalf("%d items are sent in %d chunks with window %d", len(items), d.chunks, window)
			}
		}
	}
}

// The last chunk is acknowledged only when nothing more can be sent.
func TestPromise108AcknowledgedLate(t *testing.T) {
	for _, items := range itemLists() {
		for window := 1; window <= 20; window++ {
			d, last := newDelivery(t, items), 0
			for step := 0; step < 100 && !d.done(); step++ {
				if n, ok := d.send(t, window); ok {
					last = n
				} else {
					d.acknowledge(t, last)
				}
			}
			d.checkWhole(t, items)
		}
	}
}

// In a step the window is another one than in the step before.
func TestPromise108Windows(t *testing.T) {
	for seed := range 20 {
		for _, items := range itemLists() {
			random, d := spread(seed), newDelivery(t, items)
			for step := 0; step < 100 && !d.done(); step++ {
				if n, ok := d.send(t, 1+random.below(20)); ok {
					d.acknowledge(t, n)
				}
			}
			d.checkWhole(t, items)
		}
	}
}

// interrupted sends all items. Before the steps for which fails holds the transfer is resumed, and of two acknowledgements the one with the number lost does not arrive.
func interrupted(t *testing.T, items []int, window, lost int, fails func(step int) bool) {
	t.Helper()
	d := newDelivery(t, items)
	for step := 0; step < 500 && !d.done(); step++ {
		if fails(step) {
			d.sender = impl.TransferResume(d.sender)
		}
		n, ok := d.send(t, window)
		if !slices.Equal(d.received, items[:len(d.received)]) {
			t.Fatalf("of the items %v, %v are received", items, d.received)
		}
		if ok && d.chunks%2 != lost {
			d.acknowledge(t, n)
		}
	}
	d.checkWhole(t, items)
}

// In each four steps the transfer is resumed before the same ones, at least before one.
func TestPromise109(t *testing.T) {
	for _, many := range []int{0, 1, 2, 3, 4, 5, 8, 19, 20} {
		for window := 1; window <= 20; window++ {
			for bits := 1; bits < 16; bits++ {
				for lost := range 2 {
					interrupted(t, manyItems(many), window, lost, func(step int) bool { return bits>>(step%4)&1 == 1 })
				}
			}
		}
	}
}

func TestPromise109Irregular(t *testing.T) {
	for seed := range 20 {
		random := spread(seed)
		for k, items := range itemLists() {
			interrupted(t, items, 1+random.below(20), k%2, func(int) bool { return random.below(3) == 0 })
		}
	}
}

func TestPromise110(t *testing.T) {
	eachAdded(t, func(got []int, c impl.Chunk, result []int) {
		end := c.At + len(c.Items)
		if len(result) != max(len(got), end) || !slices.Equal(result[:len(got)], got) || !slices.Equal(result[c.At:end], c.Items) {
			t.Fatalf("ChunkPut(%v, %v) = %v", got, c, result)
		}
	})
}

func TestPromise111(t *testing.T) {
	eachAdded(t, func(got []int, c impl.Chunk, result []int) {
		if again, ok := impl.ChunkPut(result, c); !ok || !slices.Equal(again, result) {
			t.Fatalf("ChunkPut(%v, %v) = %v, and then %v, %v", got, c, result, again, ok)
		}
	})
}

// contradicts reports whether a chunk has another item than the received one at the same index.
func contradicts(got []int, c impl.Chunk) bool {
	for i, item := range c.Items {
		if c.At+i < len(got) && got[c.At+i] != item {
			return true
		}
	}
	return false
}

func TestPromise112(t *testing.T) {
	behind, contradicting := 0, 0
	eachPut(func(got []int, c impl.Chunk) {
		switch {
		case c.At > len(got):
			behind++
		case contradicts(got, c):
			contradicting++
		default:
			return
		}
		if result, ok := impl.ChunkPut(got, c); ok || !slices.Equal(result, got) {
			t.Fatalf("ChunkPut(%v, %v) = %v, %v", got, c, result, ok)
		}
	})
	succeeded(t, behind)
	succeeded(t, contradicting)
}

func TestPromise113(t *testing.T) {
	valid := 0
	check := func(x impl.Transfer) {
		if !impl.TransferValid(x) {
			return
		}
		valid++
		if x.Acked > x.Next || x.Next > len(x.Items) {
			t.Fatalf("TransferValid(%v) = true", x)
		}
	}
	for many := range 22 {
		for next := -2; next <= 23; next++ {
			for acked := -2; acked <= 23; acked++ {
				check(transfer(manyItems(many), next, acked))
			}
		}
	}
	for _, x := range badTransfers() {
		check(x)
	}
	if valid != 1771 { // for each number of items up to 20, all pairs of indexes in order
		t.Errorf("%d transfers are valid", valid)
	}
}

// What the functions return for valid transfers is valid, whether they succeed or not.
func TestPromise113Results(t *testing.T) {
	check := func(name string, x, got impl.Transfer) {
		if !impl.TransferValid(got) || got.Acked > got.Next || got.Next > len(got.Items) {
			t.Fatalf("%s of %v returns %v", name, x, got)
		}
	}
	eachSend(func(x impl.Transfer, window int) {
		got, _, _ := impl.TransferSend(x, window)
		check("TransferSend", x, got)
	})
	eachAck(func(x impl.Transfer, n int) {
		got, _ := impl.TransferAck(x, n)
		check("TransferAck", x, got)
	})
	eachTransfer(func(x impl.Transfer) { check("TransferResume", x, impl.TransferResume(x)) })
}
