package tests

import (
	"slices"
	"testing"

	"loop.example/ringoverlay/impl"
)

// newRings calls check with sets of at least Base nodes and the rings of them.
func newRings(t *testing.T, check func(ids []int, ring []impl.Node)) {
	t.Helper()
	for _, ids := range someSets() {
		if len(ids) < impl.Base {
			continue
		}
		ring, ok := impl.RingNew(ids)
		if !ok {
			t.Fatalf("RingNew(%v) fails", ids)
		}
		check(ids, ring)
	}
}

// safeRings calls check with the rings that RingSafe holds for, of which there must be some that are not ideal.
func safeRings(t *testing.T, check func(ring []impl.Node)) {
	t.Helper()
	safe, ideal := 0, 0
	eachRing(func(ring []impl.Node) {
		if !impl.RingSafe(ring) {
			return
		}
		safe++
		if impl.RingIdeal(ring) {
			ideal++
		}
		check(ring)
	})
	if ideal == 0 || safe < 10*ideal {
		t.Fatalf("%d safe rings, of which %d are ideal, do not test enough", safe, ideal)
	}
}

func TestPromise13(t *testing.T) {
	newRings(t, func(ids []int, ring []impl.Node) {
		if !impl.RingIdeal(ring) || !impl.RingSafe(ring) {
			t.Fatalf("%v is not ideal or not safe", ring)
		}
		if !slices.Equal(walkIds(ring), ids) {
			t.Fatalf("RingNew(%v) = %v", ids, ring)
		}
	})
}

func TestPromise14(t *testing.T) {
	eachRing(func(ring []impl.Node) {
		ids := impl.RingIds(ring)
		if !slices.Equal(ids, walkIds(ring)) || !slices.IsSorted(ids) || len(ids) != len(ring) {
			t.Fatalf("RingIds(%v) = %v", ring, ids)
		}
	})
}

// skipsPosition puts the promise into words of chapter 1.
func skipsPosition(n impl.Node, p int) bool {
	return impl.CircleBetween(n.Id, p, n.After[0]) || impl.CircleBetween(n.After[0], p, n.After[1])
}

func TestPromise15(t *testing.T) {
	eachRing(func(ring []impl.Node) {
		principals := impl.RingPrincipals(ring)
		for _, p := range walkIds(ring) {
			skipped := slices.ContainsFunc(ring, func(n impl.Node) bool { return skipsPosition(n, p) })
			if slices.Contains(principals, p) == skipped {
				t.Fatalf("RingPrincipals(%v) = %v is wrong about %d", ring, principals, p)
			}
		}
	})
}

func TestPromise16(t *testing.T) {
	safeRings(t, func(ring []impl.Node) {
		ids := walkIds(ring)
		for _, n := range ring {
			if !slices.ContainsFunc(n.After, func(s int) bool { return slices.Contains(ids, s) }) {
				t.Fatalf("%v is safe, but node %d has no live successor", ring, n.Id)
			}
		}
		if len(impl.RingPrincipals(ring)) < 3 || len(walkPrincipals(ring)) < 3 {
			t.Fatalf("%v is safe, but has the principals %v", ring, impl.RingPrincipals(ring))
		}
	})
}

func TestPromise17(t *testing.T) {
	safeRings(t, func(ring []impl.Node) {
		for _, n := range ring {
			if slices.Contains(n.After, n.Id) || n.After[0] == n.After[1] {
				t.Fatalf("%v is safe, but node %d has the successors %v", ring, n.Id, n.After)
			}
		}
	})
}

func TestPromise18(t *testing.T) {
	safeRings(t, func(ring []impl.Node) {
		for _, n := range ring {
			if !walkBetween(n.Id, n.After[0], n.After[1]) {
				t.Fatalf("%v is safe, but node %d has the successors %v", ring, n.Id, n.After)
			}
		}
	})
}

func TestPromise19(t *testing.T) {
	eachRing(func(ring []impl.Node) {
		if !impl.RingIdeal(ring) && !walkIdeal(ring) {
			return
		}
		if !impl.RingSafe(ring) || !slices.Equal(impl.RingPrincipals(ring), walkIds(ring)) {
			t.Fatalf("%v is ideal, but not safe, or only %v are principals", ring, impl.RingPrincipals(ring))
		}
	})
}

func TestPromise20(t *testing.T) {
	ideal := 0
	eachRing(func(ring []impl.Node) {
		if !impl.RingIdeal(ring) {
			return
		}
		ideal++
		ids := impl.RingIds(ring)
		for i, n := range ring {
			if n.Before != impl.NodesBefore(ids, n.Id) || n.After[0] != ring[(i+1)%len(ring)].Id {
				t.Fatalf("%v is ideal, but node %d does not know its neighbours", ring, n.Id)
			}
		}
	})
	if ideal == 0 {
		t.Error("no ring is ideal")
	}
}

func TestPromise21(t *testing.T) {
	eachRing(func(ring []impl.Node) {
		same, ok := impl.RingNew(impl.RingIds(ring))
		if impl.RingIdeal(ring) != (ok && sameRing(same, ring)) {
			t.Fatalf("RingIdeal(%v) = %v, and RingNew of its positions is %v", ring, impl.RingIdeal(ring), same)
		}
	})
	newRings(t, func(ids []int, ring []impl.Node) {
		if !impl.RingIdeal(ring) {
			t.Fatalf("%v is not ideal", ring)
		}
	})
}

func TestPromise22(t *testing.T) {
	for i, ids := range someSets() {
		if i%17 != 0 || len(ids) < impl.Base {
			continue
		}
		for _, ring := range damaged(walkRing(ids)) {
			if !impl.RingValid(ring) {
				t.Fatalf("RingValid(%v) fails", ring)
			}
			for i := range ring {
				checkOneNode(t, ring, i)
			}
		}
	}
	if !impl.RingValid(without(walkRing([]int{5}), 0)) {
		t.Error("a ring without its only node is not valid")
	}
}

// checkOneNode checks the ring without node number i, and with other numbers of successors of it.
func checkOneNode(t *testing.T, ring []impl.Node, i int) {
	t.Helper()
	if fewer := without(ring, i); !impl.RingValid(fewer) {
		t.Fatalf("RingValid(%v) fails", fewer)
	}
	n := ring[i]
	for _, after := range [][]int{nil, {}, n.After[:1], append(slices.Clone(n.After), n.Id), slices.Repeat(n.After, 2)} {
		other := cloneRing(ring)
		other[i].After = after
		if impl.RingValid(other) {
			t.Fatalf("RingValid(%v) holds", other)
		}
	}
}

func TestPromise23(t *testing.T) {
	eachRing(func(ring []impl.Node) {
		ids, principals := walkIds(ring), impl.RingPrincipals(ring)
		for i, p := range principals {
			if !slices.Contains(ids, p) || i > 0 && principals[i-1] >= p {
				t.Fatalf("RingPrincipals(%v) = %v", ring, principals)
			}
		}
	})
}

func TestPromise24(t *testing.T) {
	safeRings(t, func(ring []impl.Node) {
		for _, p := range impl.RingPrincipals(ring) {
			for _, n := range ring {
				if walkBetween(n.Id, p, n.After[1]) && n.After[0] != p {
					t.Fatalf("%v is safe, but principal %d is before the second successor of node %d and not its first", ring, p, n.Id)
				}
			}
		}
	})
}
