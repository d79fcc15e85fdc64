package tests

import (
	"slices"
	"testing"

	"loop.example/ringoverlay/impl"
)

func TestTransferNewCases(t *testing.T) {
	lists := [][]int{nil, {}, {0}, {990}, {1, 2, 3, 4}, {1, 2, 3, 4, 5}, {7, 7, 7}, {990, 0}, manyItems(19), manyItems(20), slices.Repeat([]int{990}, 20)}
	for _, items := range append(lists, itemLists()...) {
		got, ok := impl.TransferNew(items)
		if !ok || !sameTransfer(got, transfer(items, 0, 0)) {
			t.Errorf("TransferNew(%v) = %v, %v", items, got, ok)
		}
	}
}

func TestTransferNewInvalid(t *testing.T) {
	for _, items := range append(badItemLists(), []int{-1}, []int{991}, []int{1, 991}, []int{-1, 1}, make([]int, 21)) {
		if got, ok := impl.TransferNew(items); ok || !sameTransfer(got, impl.Transfer{}) {
			t.Errorf("TransferNew(%v) = %v, %v, want none", items, got, ok)
		}
	}
}

func TestTransferValidCases(t *testing.T) {
	six := []int{0, 990, 2, 3, 4, 5}
	for _, x := range []struct {
		transfer impl.Transfer
		want     bool
	}{
		{impl.Transfer{}, true},
		{transfer([]int{}, 0, 0), true},
		{transfer(nil, 1, 0), false},
		{transfer(nil, 1, 1), false},
		{transfer(nil, 0, 1), false},
		{transfer(nil, -1, 0), false},
		{transfer(nil, 0, -1), false},
		{transfer(nil, -1, -1), false},
		{transfer(six, 0, 0), true},
		{transfer(six, 6, 0), true},
		{transfer(six, 6, 6), true},
		{transfer(six, 3, 3), true},
		{transfer(six, 3, 2), true},
		{transfer(six, 3, 4), false},
		{transfer(six, 7, 0), false},
		{transfer(six, 7, 7), false},
		{transfer(six, 6, 7), false},
		{transfer(six, 6, -1), false},
		{transfer(six, -1, 0), false},
		{transfer([]int{0, 991}, 0, 0), false},
		{transfer([]int{-1, 990}, 0, 0), false},
		{transfer(manyItems(20), 20, 20), true},
		{transfer(manyItems(20), 21, 20), false},
		{transfer(manyItems(21), 0, 0), false},
		{transfer(manyItems(21), 21, 21), false},
	} {
		if got := impl.TransferValid(x.transfer); got != x.want {
			t.Errorf("TransferValid(%v) = %v", x.transfer, got)
		}
	}
}

func TestTransferValidAll(t *testing.T) {
	eachTransfer(func(x impl.Transfer) {
		if !impl.TransferValid(x) {
			t.Fatalf("TransferValid(%v) = false", x)
		}
	})
	for _, x := range badTransfers() {
		if impl.TransferValid(x) {
			t.Fatalf("TransferValid(%v) = true", x)
		}
	}
}

func TestTransferSendCases(t *testing.T) {
	six, all := []int{11, 12, 13, 14, 15, 16}, manyItems(20)
	none := impl.Chunk{}
	for _, x := range []struct {
		name     string
		transfer impl.Transfer
		window   int
		chunk    impl.Chunk
	}{
		{"no items", impl.Transfer{}, 20, none},
		{"no items, no window", impl.Transfer{}, 0, none},
		{"one item", transfer([]int{990}, 0, 0), 1, chunk(0, 990)},
		{"one item, no window", transfer([]int{990}, 0, 0), 0, none},
		{"one item, sent", transfer([]int{990}, 1, 0), 20, none},
		{"one item, acknowledged", transfer([]int{990}, 1, 1), 20, none},
		{"an item of value 0", transfer([]int{0}, 0, 0), 20, chunk(0, 0)},
		{"first, window 0", transfer(six, 0, 0), 0, none},
		{"first, window 1", transfer(six, 0, 0), 1, chunk(0, 11)},
		{"first, window 3", transfer(six, 0, 0), 3, chunk(0, 11, 12, 13)},
		{"first, window 4", transfer(six, 0, 0), 4, chunk(0, 11, 12, 13, 14)},
		{"first, window 5", transfer(six, 0, 0), 5, chunk(0, 11, 12, 13, 14)},
		{"first, window 20", transfer(six, 0, 0), 20, chunk(0, 11, 12, 13, 14)},
		{"window partly used up", transfer(six, 2, 0), 4, chunk(2, 13, 14)},
		{"window used up but for one", transfer(six, 2, 0), 3, chunk(2, 13)},
		{"window used up", transfer(six, 2, 0), 2, none},
		{"more than the window used up", transfer(six, 2, 0), 1, none},
		{"more than the window of 0 used up", transfer(six, 2, 0), 0, none},
		{"acknowledged items do not use up the window", transfer(six, 2, 2), 1, chunk(2, 13)},
		{"some items acknowledged", transfer(six, 3, 2), 2, chunk(3, 14)},
		{"last chunk", transfer(six, 4, 0), 20, chunk(4, 15, 16)},
		{"last item", transfer(six, 5, 5), 20, chunk(5, 16)},
		{"last item, window 1", transfer(six, 5, 5), 1, chunk(5, 16)},
		{"behind the last chunk", transfer(six, 6, 0), 20, none},
		{"behind the last chunk, all acknowledged", transfer(six, 6, 6), 20, none},
		{"last chunk with exactly MaxChunk items", transfer(six, 2, 2), 20, chunk(2, 13, 14, 15, 16)},
		{"last of MaxItems", transfer(all, 16, 0), 20, chunk(16, all[16:]...)},
		{"last of MaxItems, window used up", transfer(all, 16, 0), 16, none},
		{"last of MaxItems, window used up but for one", transfer(all, 16, 0), 17, chunk(16, all[16])},
		{"behind MaxItems", transfer(all, 20, 0), 20, none},
	} {
		want := transfer(x.transfer.Items, x.transfer.Next+len(x.chunk.Items), x.transfer.Acked)
		got, c, ok := impl.TransferSend(x.transfer, x.window)
		if !sameTransfer(got, want) || !sameChunk(c, x.chunk) || ok != (len(x.chunk.Items) > 0) {
			t.Errorf("%s: TransferSend(%v, %d) = %v, %v, %v, want %v, %v", x.name, x.transfer, x.window, got, c, ok, want, x.chunk)
		}
	}
}

func TestTransferAckCases(t *testing.T) {
	six := []int{11, 12, 13, 14, 15, 16}
	for _, x := range []struct {
		name        string
		transfer    impl.Transfer
		n, acked    int
		notOutdated bool
	}{
		{"no items", impl.Transfer{}, 0, 0, true},
		{"nothing sent", transfer(six, 0, 0), 0, 0, true},
		{"none of some", transfer(six, 4, 0), 0, 0, true},
		{"one of some", transfer(six, 4, 0), 1, 1, true},
		{"all sent", transfer(six, 4, 0), 4, 4, true},
		{"all sent once more", transfer(six, 4, 4), 4, 4, true},
		{"more", transfer(six, 4, 2), 3, 3, true},
		{"as many", transfer(six, 4, 2), 2, 2, true},
		{"one fewer", transfer(six, 4, 2), 1, 2, false},
		{"0 after some", transfer(six, 4, 2), 0, 2, false},
		{"0 after one", transfer(six, 4, 1), 0, 1, false},
		{"fewer after all", transfer(six, 6, 6), 5, 6, false},
		{"all", transfer(six, 6, 0), 6, 6, true},
		{"all of MaxItems", transfer(manyItems(20), 20, 0), 20, 20, true},
	} {
		want := transfer(x.transfer.Items, x.transfer.Next, x.acked)
		if got, ok := impl.TransferAck(x.transfer, x.n); !sameTransfer(got, want) || ok != x.notOutdated {
			t.Errorf("%s: TransferAck(%v, %d) = %v, %v, want %v, %v", x.name, x.transfer, x.n, got, ok, want, x.notOutdated)
		}
	}
}

func TestTransferResumeCases(t *testing.T) {
	six := []int{11, 12, 13, 14, 15, 16}
	for _, x := range []struct {
		name        string
		next, acked int
	}{
		{"nothing sent", 0, 0},
		{"nothing acknowledged", 4, 0},
		{"some acknowledged", 4, 2},
		{"all but one acknowledged", 6, 5},
		{"all that were sent acknowledged", 4, 4},
		{"all sent, none acknowledged", 6, 0},
		{"all acknowledged", 6, 6},
	} {
		if got, want := impl.TransferResume(transfer(six, x.next, x.acked)), transfer(six, x.acked, x.acked); !sameTransfer(got, want) {
			t.Errorf("%s: TransferResume = %v, want %v", x.name, got, want)
		}
	}
	if got := impl.TransferResume(impl.Transfer{}); !sameTransfer(got, impl.Transfer{}) {
		t.Errorf("TransferResume of no items = %v", got)
	}
}

func TestChunkPutCases(t *testing.T) {
	four, all := []int{11, 12, 13, 14}, manyItems(20)
	for _, x := range []struct {
		name  string
		got   []int
		chunk impl.Chunk
		want  []int
		ok    bool
	}{
		{"first", nil, chunk(0, 11), []int{11}, true},
		{"first, MaxChunk items", nil, chunk(0, 11, 12, 13, 14), four, true},
		{"first, at 1", nil, chunk(1, 12), nil, false},
		{"first, at the end", nil, chunk(19, 12), nil, false},
		{"wholly received, at the beginning", four, chunk(0, 11, 12), four, true},
		{"wholly received, in the middle", four, chunk(1, 12, 13), four, true},
		{"wholly received, at the end", four, chunk(2, 13, 14), four, true},
		{"wholly received, all", four, chunk(0, 11, 12, 13, 14), four, true},
		{"wholly received, the last item", four, chunk(3, 14), four, true},
		{"overlapping by one item", four, chunk(3, 14, 15, 16), []int{11, 12, 13, 14, 15, 16}, true},
		{"overlapping by all but one item", four, chunk(1, 12, 13, 14, 15), []int{11, 12, 13, 14, 15}, true},
		{"following", four, chunk(4, 15, 16), []int{11, 12, 13, 14, 15, 16}, true},
		{"following, equal to the received items", four, chunk(4, 11, 12, 13, 14), []int{11, 12, 13, 14, 11, 12, 13, 14}, true},
		{"behind by one", four, chunk(5, 15), four, false},
		{"behind by one, with the missing item", four, chunk(5, 15, 16), four, false},
		{"at the last place", four, chunk(19, 15), four, false},
		{"contradiction in the first item", four, chunk(0, 12, 12, 13), four, false},
		{"contradiction in the last item", four, chunk(0, 11, 12, 12), four, false},
		{"contradiction in the last received item", four, chunk(2, 13, 15, 15), four, false},
		{"contradiction in the first item of an overlapping chunk", four, chunk(2, 12, 14, 15), four, false},
		{"contradiction in the only item", four, chunk(3, 15), four, false},
		{"contradiction with 0", four, chunk(3, 0), four, false},
		{"items of another place", four, chunk(1, 11, 12), four, false},
		{"up to MaxItems", all[:16], chunk(16, all[16:]...), all, true},
		{"up to MaxItems, overlapping", all[:18], chunk(16, all[16:]...), all, true},
		{"the last item", all[:19], chunk(19, all[19]), all, true},
		{"all received", all, chunk(16, all[16:]...), all, true},
		{"the last item received", all, chunk(19, all[19]), all, true},
		{"contradiction in the last of MaxItems", all, chunk(19, 500), all, false},
		{"contradiction in the first of MaxItems", all, chunk(0, 500), all, false},
		{"both ends of the range", []int{0, 990}, chunk(1, 990, 0), []int{0, 990, 0}, true},
	} {
		if got, ok := impl.ChunkPut(x.got, x.chunk); !slices.Equal(got, x.want) || ok != x.ok {
			t.Errorf("%s: ChunkPut(%v, %v) = %v, %v, want %v, %v", x.name, x.got, x.chunk, got, ok, x.want, x.ok)
		}
	}
}

// The answers are compared with those of a model that handles one item after the other.
func TestTransfersModelled(t *testing.T) {
	eachSend(func(x impl.Transfer, window int) {
		want, wantChunk, wantOk := modelSend(x, window)
		if got, c, ok := impl.TransferSend(x, window); !sameTransfer(got, want) || !sameChunk(c, wantChunk) || ok != wantOk {
			t.Fatalf("TransferSend(%v, %d) = %v, %v, %v, want %v, %v, %v", x, window, got, c, ok, want, wantChunk, wantOk)
		}
	})
	eachAck(func(x impl.Transfer, n int) {
		want, wantOk := modelAck(x, n)
		if got, ok := impl.TransferAck(x, n); !sameTransfer(got, want) || ok != wantOk {
			t.Fatalf("TransferAck(%v, %d) = %v, %v, want %v, %v", x, n, got, ok, want, wantOk)
		}
	})
	eachPut(func(got []int, c impl.Chunk) {
		want, wantOk := modelPut(got, c)
		if result, ok := impl.ChunkPut(got, c); !slices.Equal(result, want) || ok != wantOk {
			t.Fatalf("ChunkPut(%v, %v) = %v, %v, want %v, %v", got, c, result, ok, want, wantOk)
		}
	})
}

// In a long history chunks and acknowledgements are lost or come late, the window changes, and the sending side fails and resumes. The received items are always the first ones, and all of them in the end.
func TestTransferHistory(t *testing.T) {
	for seed := range 400 {
		random, items := spread(seed), itemLists()[seed%len(itemLists())]
		d, late := newDelivery(t, items), []impl.Chunk{}
		for step := 0; step < 2000 && !d.done(); step++ {
			if random.below(4) == 0 {
				d.sender = impl.TransferResume(d.sender)
			}
			sender, c, ok := impl.TransferSend(d.sender, random.below(21))
			if d.sender = sender; ok {
				late = append(late, c)
			}
			for range random.below(3) {
				if len(late) > 0 {
					d.received, _ = impl.ChunkPut(d.received, late[random.below(len(late))])
				}
			}
			if !slices.Equal(d.received, items[:len(d.received)]) {
				t.Fatalf("seed %d: of the items %v, %v are received", seed, items, d.received)
			}
			if random.below(2) == 0 {
				d.sender, _ = impl.TransferAck(d.sender, min(len(d.received), d.sender.Next))
			}
		}
		d.checkWhole(t, items)
	}
}

func checkNoSend(t *testing.T, x impl.Transfer, window int) {
	t.Helper()
	if got, c, ok := impl.TransferSend(x, window); ok || !sameTransfer(got, impl.Transfer{}) || !sameChunk(c, impl.Chunk{}) {
		t.Errorf("TransferSend(%v, %d) = %v, %v, %v, want none", x, window, got, c, ok)
	}
}

func checkNoAck(t *testing.T, x impl.Transfer, n int) {
	t.Helper()
	if got, ok := impl.TransferAck(x, n); ok || !sameTransfer(got, impl.Transfer{}) {
		t.Errorf("TransferAck(%v, %d) = %v, %v, want none", x, n, got, ok)
	}
}

func checkNoPut(t *testing.T, got []int, c impl.Chunk) {
	t.Helper()
	if result, ok := impl.ChunkPut(got, c); ok || len(result) != 0 {
		t.Errorf("ChunkPut(%v, %v) = %v, %v, want none", got, c, result, ok)
	}
}

func TestTransfersInvalid(t *testing.T) {
	for _, x := range badTransfers() {
		for _, n := range []int{0, 1, 4, 20, x.Next, x.Acked, -1, 21} {
			checkNoSend(t, x, n)
			checkNoAck(t, x, n)
		}
		if got := impl.TransferResume(x); !sameTransfer(got, impl.Transfer{}) {
			t.Errorf("TransferResume(%v) = %v, want none", x, got)
		}
	}
}

// Also where nothing is left to be sent, a window that is out of range gives no transfer.
func TestTransferSendNoWindow(t *testing.T) {
	eachTransfer(func(x impl.Transfer) {
		for _, window := range notWindows {
			checkNoSend(t, x, window)
		}
	})
}

func TestTransferAckOutOfRange(t *testing.T) {
	eachTransfer(func(x impl.Transfer) {
		for _, n := range append([]int{x.Next + 1, x.Next + 2}, notWindows...) {
			checkNoAck(t, x, n)
		}
	})
}

// Also where the chunk would not fit, invalid arguments give no items.
func TestChunkPutInvalid(t *testing.T) {
	for _, c := range badChunks() {
		for received := range 21 {
			checkNoPut(t, manyItems(received), c)
		}
	}
	for _, got := range badItemLists() {
		checkNoPut(t, got, impl.Chunk{})
		for _, at := range []int{0, 1, 15, 16} {
			checkNoPut(t, got, chunk(at, manyItems(20)[at:at+4]...))
		}
		for at := range min(len(got), 20) {
			checkNoPut(t, got, chunk(at, got[at]))
		}
	}
}
