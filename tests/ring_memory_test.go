package tests

import (
	"slices"
	"testing"

	"loop.example/ringoverlay/impl"
)

// fill overwrites a list up to its capacity, which would show in any list that shares memory with it.
func fill(list []int) {
	list = list[:cap(list)]
	for i := range list {
		list[i] = -99
	}
}

// roomy returns the list with free capacity behind it, and the whole of its memory.
func roomy(list []int) (short, whole []int) {
	whole = append(slices.Clone(list), 61, 62, 63)
	return whole[:len(list)], whole
}

func TestRingNewMemory(t *testing.T) {
	for _, nodes := range [][]int{{5, 20, 35}, {5, 20, 35, 50}, walkIds(mostNodes())} {
		want := walkRing(nodes)
		for i := range nodes {
			ids := slices.Clone(nodes)
			ring, ok := impl.RingNew(ids)
			again, _ := impl.RingNew(ids)
			if !ok {
				t.Fatalf("RingNew(%v) fails", ids)
			}
			fill(ring[i].After)
			ring[i].After = want[i].After
			if !sameRing(ring, want) {
				t.Errorf("After of node %d shares memory with another one: %v", nodes[i], ring)
			}
			if !slices.Equal(ids, nodes) || !sameRing(again, want) {
				t.Errorf("After of node %d shares memory with the argument or another result: %v, %v", nodes[i], ids, again)
			}
			fill(ids)
			if !sameRing(again, want) {
				t.Errorf("the result shares memory with the argument: %v", again)
			}
			clear(ring[:cap(ring)])
			if !sameRing(again, want) {
				t.Errorf("two results share memory: %v", again)
			}
		}
	}
}

func TestRingListsMemory(t *testing.T) {
	for _, list := range []func([]impl.Node) []int{impl.RingIds, impl.RingPrincipals} {
		for _, original := range [][]impl.Node{fourNodes(), changed(0, node(5, 50, 35, 50)), mostNodes()} {
			ring := cloneRing(original)
			got, again := list(ring), list(ring)
			want := slices.Clone(again)
			fill(got)
			if !sameRing(ring, original) || !slices.Equal(again, want) {
				t.Errorf("the result shares memory with the argument or another result: %v, %v", ring, again)
			}
			for i := range ring {
				fill(ring[i].After)
				ring[i].Id = -99
			}
			if !slices.Equal(again, want) {
				t.Errorf("the result shares memory with the argument: %v", again)
			}
		}
	}
}

// The lists of invalid arguments are results too.
func TestRingEmptyMemory(t *testing.T) {
	for _, list := range []func([]impl.Node) []int{impl.RingIds, impl.RingPrincipals} {
		for _, ring := range [][]impl.Node{nil, changed(0, node(64, 50, 35, 50))} {
			first := append(list(ring), 1)
			second := append(list(ring), 2)
			if first[0] != 1 || second[0] != 2 {
				t.Errorf("two empty results share memory: %v, %v", first, second)
			}
		}
	}
	bad, _ := impl.RingNew(nil)
	first := append(bad, node(1, -1))
	bad, _ = impl.RingNew(nil)
	second := append(bad, node(2, -1))
	if first[0].Id != 1 || second[0].Id != 2 {
		t.Errorf("two empty results share memory: %v, %v", first, second)
	}
}

func TestRingUnmodified(t *testing.T) {
	rings := [][]impl.Node{{}, fourNodes(), mostNodes(), changed(0, node(5, -1, 10, 20)), changed(1, node(20, 5, 50, 35)), without(fourNodes(), 2)}
	for _, ring := range badRings() {
		rings = append(rings, ring)
	}
	for _, original := range rings {
		ring := append(cloneRing(original), node(63, 63, 63, 63))
		var wholes [][]int
		for i := range ring {
			short, whole := roomy(ring[i].After)
			ring[i].After, wholes = short, append(wholes, slices.Clone(whole))
		}
		want := cloneRing(ring)
		arg := ring[:len(original)]
		impl.RingValid(arg)
		impl.RingIds(arg)
		impl.RingPrincipals(arg)
		impl.RingSafe(arg)
		impl.RingIdeal(arg)
		if !sameRing(ring, want) {
			t.Errorf("%v became %v", want, ring)
		}
		for i, whole := range wholes {
			if got := ring[i].After[:len(whole)]; !slices.Equal(got, whole) {
				t.Errorf("the memory of After became %v, want %v", got, whole)
			}
		}
	}
}

func TestRingNewUnmodified(t *testing.T) {
	for _, nodes := range [][]int{{}, {5, 20}, {5, 20, 35}, {35, 20, 5}, {5, 5, 20}, walkIds(mostNodes())} {
		short, whole := roomy(nodes)
		want := slices.Clone(whole)
		impl.RingNew(short)
		if !slices.Equal(whole, want) {
			t.Errorf("RingNew changed %v to %v", want, whole)
		}
	}
}
