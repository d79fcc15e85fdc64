package tests

import (
	"slices"
	"testing"

	"loop.example/ringoverlay/impl"
)

// transferCall is a call of a function of chapter 22 that returns a list of items, with all arguments but one list.
type transferCall struct {
	name string
	do   func(list []int) []int
}

// stateCalls returns calls with transfers that have the given indexes.
func stateCalls(next, acked int) []transferCall {
	calls := []transferCall{{"TransferResume", func(list []int) []int {
		return impl.TransferResume(transfer(list, next, acked)).Items
	}}}
	for _, n := range []int{0, 1, 2, 4, 20, 21} {
		calls = append(calls, transferCall{"TransferSend", func(list []int) []int {
			got, _, _ := impl.TransferSend(transfer(list, next, acked), n)
			return got.Items
		}}, transferCall{"TransferSend, chunk", func(list []int) []int {
			_, c, _ := impl.TransferSend(transfer(list, next, acked), n)
			return c.Items
		}}, transferCall{"TransferAck", func(list []int) []int {
			got, _ := impl.TransferAck(transfer(list, next, acked), n)
			return got.Items
		}})
	}
	return calls
}

// transferCalls returns calls that succeed, that change nothing, and that fail.
func transferCalls() []transferCall {
	calls := []transferCall{{"TransferNew", func(list []int) []int {
		got, _ := impl.TransferNew(list)
		return got.Items
	}}}
	for _, pair := range [][2]int{{0, 0}, {1, 0}, {2, 2}, {4, 1}, {4, 4}, {5, 0}, {16, 10}, {20, 20}, {0, 1}, {-1, 0}} {
		calls = append(calls, stateCalls(pair[0], pair[1])...)
	}
	for _, at := range []int{-1, 0, 1, 3, 4, 5, 16, 17} {
		for _, many := range []int{0, 1, 4, 5} {
			c := chunk(at, manyItems(25)[max(at, 0):max(at, 0)+many]...)
			calls = append(calls, transferCall{"ChunkPut, received items", func(list []int) []int {
				got, _ := impl.ChunkPut(list, c)
				return got
			}})
		}
		for _, received := range [][]int{nil, manyItems(1), manyItems(4), manyItems(20), manyItems(21)} {
			calls = append(calls, transferCall{"ChunkPut, chunk", func(list []int) []int {
				got, _ := impl.ChunkPut(received, impl.Chunk{At: at, Items: list})
				return got
			}})
		}
	}
	return calls
}

// memoryItems has items of transfers and of chunks, and lists that are neither.
func memoryItems() [][]int {
	all := manyItems(20)
	return [][]int{nil, {}, {0}, {991}, {-1}, manyItems(2), manyItems(4), manyItems(5), manyItems(19), all, manyItems(21), all[1:3], all[3:5], all[4:8], all[16:]}
}

func TestTransfersMemory(t *testing.T) {
	for _, list := range memoryItems() {
		for _, call := range transferCalls() {
			checkMemory(t, call.name, list, -99, call.do)
		}
	}
}

// The empty lists of invalid arguments, of transfers without items and of missing chunks are results too.
func TestTransfersEmptyMemory(t *testing.T) {
	for _, list := range [][]int{nil, {}, {991}, make([]int, 21)} {
		for _, call := range transferCalls() {
			if len(call.do(list)) == 0 {
				checkEmptyMemory(t, call.name, list, 1, 2, call.do)
			}
		}
	}
	for _, x := range []transferCall{
		{"TransferSend of all sent items", func(list []int) []int {
			_, c, _ := impl.TransferSend(transfer(list, len(list), 0), 20)
			return c.Items
		}},
		{"TransferSend with no window", func(list []int) []int {
			_, c, _ := impl.TransferSend(transfer(list, 0, 0), 0)
			return c.Items
		}},
		{"ChunkPut of an empty chunk", func(list []int) []int {
			got, _ := impl.ChunkPut(list, chunk(0))
			return got
		}},
	} {
		checkEmptyMemory(t, x.name, manyItems(8), 1, 2, x.do)
	}
}

// The items of the transfer and those of the chunk are in different memory.
func TestTransferSendMemory(t *testing.T) {
	eachSent(t, func(x, _ impl.Transfer, window int, _ impl.Chunk) {
		got, c, _ := impl.TransferSend(x, window)
		wantItems, wantChunk := slices.Clone(got.Items), slices.Clone(c.Items)
		overwrite(c.Items, -99)
		if !slices.Equal(got.Items, wantItems) {
			t.Fatalf("TransferSend(%v, %d): the transfer shares memory with the chunk", x, window)
		}
		got, c, _ = impl.TransferSend(x, window)
		overwrite(got.Items, -99)
		if !slices.Equal(c.Items, wantChunk) {
			t.Fatalf("TransferSend(%v, %d): the chunk shares memory with the transfer", x, window)
		}
	})
}

func TestTransfersUnmodified(t *testing.T) {
	for _, list := range memoryItems() {
		for _, call := range transferCalls() {
			checkUnmodified(t, call.name, list, -99, func(list []int) { call.do(list) })
		}
		for _, next := range []int{-1, 0, 4} {
			checkUnmodified(t, "TransferValid", list, -99, func(list []int) { impl.TransferValid(transfer(list, next, 0)) })
		}
	}
}
