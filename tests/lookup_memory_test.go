package tests

import (
	"slices"
	"testing"

	"loop.example/ringoverlay/impl"
)

// lookupCall is a call of a function of chapter 11 that returns a list, with all arguments but the nodes.
type lookupCall struct {
	name string
	do   func(nodes []int) []int
}

// lookupCalls returns calls with each pair of the given positions.
func lookupCalls(positions []int) []lookupCall {
	var calls []lookupCall
	for _, a := range positions {
		calls = append(calls, lookupCall{"FingersOf", func(nodes []int) []int { return impl.FingersOf(nodes, a) }})
		for _, b := range positions {
			calls = append(calls,
				lookupCall{"LookupPath", func(nodes []int) []int { return impl.LookupPath(nodes, a, b) }},
				lookupCall{"LookupRange", func(nodes []int) []int { return impl.LookupRange(nodes, a, b) }})
		}
	}
	return calls
}

// memorySets has sets whose ranges and paths may be all of their nodes, and lists that are not sets.
func memorySets() [][]int {
	return [][]int{{7}, {5, 20, 35, 50}, longWay(), walkIds(mostNodes()), {0, 1, 2, 3, 4, 5, 6, 7, 8, 9}, {}, {20, 5}, {5, 5}, {0, 1, 2, 3, 4, 5, 6, 7, 8, 9, 10}}
}

func memoryPositions(nodes []int) []int {
	return slices.Concat(nodes, []int{6, 41, impl.Circle - 1, -1, impl.Circle})
}

func TestLookupMemory(t *testing.T) {
	for _, nodes := range memorySets() {
		for _, call := range lookupCalls(memoryPositions(nodes)) {
			checkMemory(t, call.name, nodes, -99, call.do)
		}
	}
}

// The empty lists of invalid arguments are results too.
func TestLookupEmptyMemory(t *testing.T) {
	for _, nodes := range [][]int{nil, {20, 5}, {5, 20}} {
		for _, call := range lookupCalls([]int{-1, impl.Circle}) {
			checkEmptyMemory(t, call.name, nodes, 1, 2, call.do)
		}
	}
}

func TestLookupUnmodified(t *testing.T) {
	for _, nodes := range memorySets() {
		positions := memoryPositions(nodes)
		for _, call := range lookupCalls(positions) {
			checkUnmodified(t, call.name, nodes, -99, func(nodes []int) { call.do(nodes) })
		}
		for _, id := range positions {
			for _, key := range positions {
				checkUnmodified(t, "LookupNext", nodes, -99, func(nodes []int) { impl.LookupNext(nodes, id, key) })
			}
		}
	}
}
