package tests

import (
	"slices"
	"testing"

	"loop.example/ringoverlay/impl"
)

// ringCall is a call of a function of chapter 4 with all arguments but the ring.
type ringCall struct {
	name string
	do   func(ring []impl.Node) []impl.Node
}

// ringCalls returns calls that succeed, that fail, and that change nothing.
func ringCalls(ring []impl.Node) []ringCall {
	calls := []ringCall{{"RingRound", impl.RingRound}, {"RingCalm", impl.RingCalm}}
	positions := append(walkIds(ring), 7, 10, 49, -1, impl.Circle)
	for _, kind := range ringSteps() {
		for _, id := range positions {
			others := positions
			if !kind.pair {
				others = positions[:1]
			}
			for _, other := range others {
				calls = append(calls, ringCall{kind.name, func(ring []impl.Node) []impl.Node {
					got, _ := kind.do(ring, id, other)
					return got
				}})
			}
		}
	}
	return calls
}

// memoryRings returns rings of which steps succeed or fail, and some that are not safe.
func memoryRings() [][]impl.Node {
	return [][]impl.Node{fourNodes(), walkRing([]int{5, 20, 35}), mostNodes(), afterFail(), afterJoin(), skipping(), changed(1, node(20, -1, 35, 50)),
		changed(0, node(5, 50, 10, 20)), removed(mostNodes(), 9), {}, changed(0, node(5, 50, 10, 15)), changed(0, node(5, 50, 20)), append(mostNodes(), node(60, 57, 3, 9))}
}

// scramble overwrites all memory of a ring.
func scramble(ring []impl.Node) {
	for i := range ring {
		fill(ring[i].After)
	}
	ring = ring[:cap(ring)]
	for i := range ring {
		ring[i] = node(-99, -99, -99)
	}
}

// checkResultMemory overwrites the result of a call, node by node and as a whole, and then the argument.
func checkResultMemory(t *testing.T, call ringCall, original []impl.Node) {
	t.Helper()
	ring := cloneRing(original)
	got, again := call.do(ring), call.do(ring)
	want := cloneRing(again)
	if !sameRing(got, want) {
		t.Fatalf("%s(%v) = %v, and then %v", call.name, original, got, want)
	}
	for i := range got {
		fill(got[i].After)
		got[i].After = slices.Clone(want[i].After)
		if !sameRing(got, want) || !sameRing(again, want) || !sameRing(ring, original) {
			t.Fatalf("%s(%v): After of node %d of the result shares memory", call.name, original, want[i].Id)
		}
	}
	scramble(got)
	if !sameRing(again, want) || !sameRing(ring, original) {
		t.Fatalf("%s(%v): the result shares memory with the argument or another result", call.name, original)
	}
	scramble(ring)
	if !sameRing(again, want) {
		t.Fatalf("%s(%v): the result shares memory with the argument", call.name, original)
	}
}

func TestStepsMemory(t *testing.T) {
	for _, ring := range memoryRings() {
		for _, call := range ringCalls(ring) {
			checkResultMemory(t, call, ring)
		}
	}
}

// Nodes of the argument may share their lists; those of the result do not.
func TestStepsSharedArgument(t *testing.T) {
	for _, original := range [][]impl.Node{afterJoin(), joined(fourNodes(), node(55, 50, 5, 20))} {
		for _, call := range ringCalls(original) {
			ring := cloneRing(original)
			for i := 1; i < len(ring); i++ {
				if slices.Equal(ring[i].After, ring[i-1].After) {
					ring[i].After = ring[i-1].After
				}
			}
			got := call.do(ring)
			want := cloneRing(got)
			for i := range got {
				fill(got[i].After)
				got[i].After = slices.Clone(want[i].After)
				if !sameRing(got, want) || !sameRing(ring, original) {
					t.Fatalf("%s(%v): After of node %d of the result shares memory", call.name, original, want[i].Id)
				}
			}
		}
	}
}

// The empty rings of failed calls are results too.
func TestStepsEmptyMemory(t *testing.T) {
	for _, ring := range [][]impl.Node{nil, changed(0, node(5, 50, 10, 15))} {
		for _, call := range ringCalls(ring) {
			first := append(call.do(ring), node(1, -1))
			second := append(call.do(ring), node(2, -1))
			if len(first) != 1 || len(second) != 1 || first[0].Id != 1 || second[0].Id != 2 {
				t.Errorf("%s(%v): two empty results share memory or are not empty: %v, %v", call.name, ring, first, second)
			}
		}
	}
}

func TestStepsUnmodified(t *testing.T) {
	for _, original := range memoryRings() {
		for _, call := range ringCalls(original) {
			ring := append(cloneRing(original), node(62, 62, 62, 62), node(63, 63, 63, 63))
			var wholes [][]int
			for i := range ring {
				short, whole := roomy(ring[i].After)
				ring[i].After, wholes = short, append(wholes, slices.Clone(whole))
			}
			want := cloneRing(ring)
			call.do(ring[:len(original)])
			if !sameRing(ring, want) {
				t.Fatalf("%s changed %v to %v", call.name, want, ring)
			}
			for i, whole := range wholes {
				if got := ring[i].After[:len(whole)]; !slices.Equal(got, whole) {
					t.Fatalf("%s changed the memory of After to %v, want %v", call.name, got, whole)
				}
			}
		}
	}
}
