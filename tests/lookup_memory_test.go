package tests

import (
	"slices"
	"testing"

	"loop.example/ringoverlay/impl"
)

// lookupCall is a call of a function of chapter 11 that returns a list, with all arguments but the nodes.
type lookupCall struct {
	name string
	do   func(nodes []int) []int
}

// lookupCalls returns calls with each pair of the given positions.
func lookupCalls(positions []int) []lookupCall {
	var calls []lookupCall
	for _, a := range positions {
		calls = append(calls, lookupCall{"FingersOf", func(nodes []int) []int { return impl.FingersOf(nodes, a) }})
		for _, b := range positions {
			calls = append(calls,
				lookupCall{"LookupPath", func(nodes []int) []int { return impl.LookupPath(nodes, a, b) }},
				lookupCall{"LookupRange", func(nodes []int) []int { return impl.LookupRange(nodes, a, b) }})
		}
	}
	return calls
}

// memorySets has sets whose ranges and paths may be all of their nodes, and lists that are not sets.
func memorySets() [][]int {
	return [][]int{{7}, {5, 20, 35, 50}, longWay(), walkIds(mostNodes()), {0, 1, 2, 3, 4, 5, 6, 7, 8, 9}, {}, {20, 5}, {5, 5}, {0, 1, 2, 3, 4, 5, 6, 7, 8, 9, 10}}
}

func memoryPositions(nodes []int) []int {
	return slices.Concat(nodes, []int{6, 41, impl.Circle - 1, -1, impl.Circle})
}

func TestLookupMemory(t *testing.T) {
	for _, original := range memorySets() {
		for _, call := range lookupCalls(memoryPositions(original)) {
			nodes, whole := roomy(original)
			before := slices.Clone(whole)
			got, again := call.do(nodes), call.do(nodes)
			want := slices.Clone(again)
			if !slices.Equal(got, want) {
				t.Fatalf("%s of %v is %v, and then %v", call.name, original, got, want)
			}
			fill(got)
			if !slices.Equal(whole, before) || !slices.Equal(again, want) {
				t.Fatalf("%s of %v: the result shares memory with the argument or another result", call.name, original)
			}
			fill(whole)
			if !slices.Equal(again, want) {
				t.Fatalf("%s of %v: the result shares memory with the argument", call.name, original)
			}
		}
	}
}

// The empty lists of invalid arguments are results too.
func TestLookupEmptyMemory(t *testing.T) {
	for _, nodes := range [][]int{nil, {20, 5}, {5, 20}} {
		for _, call := range lookupCalls([]int{-1, impl.Circle}) {
			first := append(call.do(nodes), 1)
			second := append(call.do(nodes), 2)
			if len(first) != 1 || len(second) != 1 || first[0] != 1 || second[0] != 2 {
				t.Errorf("%s of %v: two empty results share memory or are not empty: %v, %v", call.name, nodes, first, second)
			}
		}
	}
}

func TestLookupUnmodified(t *testing.T) {
	for _, original := range memorySets() {
		nodes, whole := roomy(original)
		want := slices.Clone(whole)
		positions := memoryPositions(original)
		for _, call := range lookupCalls(positions) {
			call.do(nodes)
			if !slices.Equal(whole, want) {
				t.Fatalf("%s changed %v to %v", call.name, want, whole)
			}
		}
		for _, id := range positions {
			for _, key := range positions {
				impl.LookupNext(nodes, id, key)
				if !slices.Equal(whole, want) {
					t.Fatalf("LookupNext changed %v to %v", want, whole)
				}
			}
		}
	}
}
