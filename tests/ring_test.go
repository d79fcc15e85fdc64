package tests

import (
	"math"
	"slices"
	"testing"

	"loop.example/ringoverlay/impl"
)

func node(id, before int, after ...int) impl.Node {
	return impl.Node{Id: id, Before: before, After: after}
}

func sameNode(a, b impl.Node) bool {
	return a.Id == b.Id && a.Before == b.Before && slices.Equal(a.After, b.After)
}

func sameRing(a, b []impl.Node) bool {
	return slices.EqualFunc(a, b, sameNode)
}

func cloneRing(ring []impl.Node) []impl.Node {
	copied := slices.Clone(ring)
	for i := range copied {
		copied[i].After = slices.Clone(copied[i].After)
	}
	return copied
}

func without(ring []impl.Node, i int) []impl.Node {
	return slices.Delete(cloneRing(ring), i, i+1)
}

// fourNodes is an ideal ring, which the cases change.
func fourNodes() []impl.Node {
	return []impl.Node{node(5, 50, 20, 35), node(20, 5, 35, 50), node(35, 20, 50, 5), node(50, 35, 5, 20)}
}

// changed returns fourNodes with one node replaced.
func changed(i int, n impl.Node) []impl.Node {
	ring := fourNodes()
	ring[i] = n
	return ring
}

// mostNodes is an ideal ring of MaxNodes nodes.
func mostNodes() []impl.Node {
	return walkRing([]int{3, 9, 15, 21, 27, 33, 39, 45, 51, 57})
}

// walkIds lists the positions in the order of the list.
func walkIds(ring []impl.Node) []int {
	ids := []int{}
	for _, n := range ring {
		ids = append(ids, n.Id)
	}
	return ids
}

// walkPrincipals follows the definition: it walks along the successors of all nodes and crosses out what it passes.
func walkPrincipals(ring []impl.Node) []int {
	var skipped [impl.Circle]bool
	for _, n := range ring {
		from := n.Id
		for _, to := range n.After {
			for p := up(from); p != to; p = up(p) {
				skipped[p] = true
			}
			from = to
		}
	}
	principals := []int{}
	for _, id := range walkIds(ring) {
		if !skipped[id] {
			principals = append(principals, id)
		}
	}
	return principals
}

func walkSafe(ring []impl.Node) bool {
	ids := walkIds(ring)
	for _, n := range ring {
		if !slices.Contains(ids, n.After[0]) && !slices.Contains(ids, n.After[1]) {
			return false
		}
	}
	return len(walkPrincipals(ring)) >= 3
}

// walkRing finds the neighbours of each node step by step.
func walkRing(ids []int) []impl.Node {
	ring := []impl.Node{}
	for _, id := range ids {
		first := walkNext(ids, up(id))
		ring = append(ring, node(id, walkBefore(ids, id), first, walkNext(ids, up(first))))
	}
	return ring
}

func walkIdeal(ring []impl.Node) bool {
	return len(ring) >= 3 && sameRing(ring, walkRing(walkIds(ring)))
}

// smallRings calls check with every ring of the given nodes whose successors are among the given positions.
func smallRings(ids, known []int, check func(ring []impl.Node)) {
	ring := []impl.Node{}
	var extend func()
	extend = func() {
		if len(ring) == len(ids) {
			check(ring)
			return
		}
		id := ids[len(ring)]
		for _, first := range known {
			for _, second := range known {
				ring = append(ring, node(id, walkBefore(ids, id), first, second))
				extend()
				ring = ring[:len(ring)-1]
			}
		}
	}
	extend()
}

// damaged returns rings that differ from an ideal one in one or two places: dead, joined, mistaken and forgetful nodes.
func damaged(ideal []impl.Node) [][]impl.Node {
	rings := [][]impl.Node{ideal}
	change := func(i int, n impl.Node) {
		ring := cloneRing(ideal)
		ring[i] = n
		rings = append(rings, ring)
	}
	for i, n := range ideal {
		fewer := without(ideal, i)
		rings = append(rings, fewer)
		for k := range fewer {
			rings = append(rings, without(fewer, k))
		}
		for _, before := range []int{-1, n.Id, up(n.Id), down(n.Id), n.After[0]} {
			change(i, node(n.Id, before, n.After...))
		}
		a, b := n.After[0], n.After[1]
		for _, list := range [][2]int{{b, a}, {a, a}, {n.Id, b}, {a, n.Id}, {up(n.Id), a}, {a, up(a)}, {down(a), down(b)}, {up(a), b}, {b, up(b)}, {up(n.Id), down(a)}, {up(a), up(b)}} {
			change(i, node(n.Id, n.Before, list[0], list[1]))
		}
		if len(ideal) < impl.MaxNodes && up(n.Id) != a {
			joined := append(cloneRing(ideal), node(up(n.Id), n.Id, a, b))
			slices.SortFunc(joined, func(x, y impl.Node) int { return x.Id - y.Id })
			rings = append(rings, joined)
		}
	}
	return rings
}

// eachRing calls check with valid rings of all sizes, most of which are not ideal and many of which are not safe.
func eachRing(check func(ring []impl.Node)) {
	check(nil)
	smallRings([]int{7}, []int{0, 6, 7, 8, 63}, check)
	smallRings([]int{0, 63}, []int{0, 1, 30, 62, 63}, check)
	smallRings([]int{5, 20, 35}, []int{0, 5, 10, 20, 35, 36}, check)
	smallRings([]int{0, 20, 40, 63}, []int{0, 20, 30, 40, 63}, check)
	for i, set := range someSets() {
		if i%17 == 0 && len(set) >= impl.Base {
			for _, ring := range damaged(walkRing(set)) {
				check(ring)
			}
		}
	}
}

// checkRing compares all that is said of a valid ring with what is wanted.
func checkRing(t *testing.T, name string, ring []impl.Node, principals []int, safe, ideal bool) {
	t.Helper()
	if !impl.RingValid(ring) {
		t.Errorf("%s: RingValid(%v) fails", name, ring)
	}
	if got := impl.RingIds(ring); !slices.Equal(got, walkIds(ring)) {
		t.Errorf("%s: RingIds(%v) = %v", name, ring, got)
	}
	if got := impl.RingPrincipals(ring); !slices.Equal(got, principals) {
		t.Errorf("%s: RingPrincipals(%v) = %v, want %v", name, ring, got, principals)
	}
	if got := impl.RingSafe(ring); got != safe {
		t.Errorf("%s: RingSafe(%v) = %v", name, ring, got)
	}
	if got := impl.RingIdeal(ring); got != ideal {
		t.Errorf("%s: RingIdeal(%v) = %v", name, ring, got)
	}
}

func TestRingCases(t *testing.T) {
	all := []int{5, 20, 35, 50}
	joined := []impl.Node{node(5, 35, 20, 35), node(20, 5, 35, 5), node(35, 20, 5, 20), node(50, 35, 5, 20)}
	oneFewer := cloneRing(joined)
	oneFewer[0].After = []int{35, 50}
	for _, c := range []struct {
		name        string
		ring        []impl.Node
		principals  []int
		safe, ideal bool
	}{
		{"ideal", fourNodes(), all, true, true},
		{"Base nodes", walkRing([]int{5, 20, 35}), []int{5, 20, 35}, true, true},
		{"MaxNodes nodes", mostNodes(), []int{3, 9, 15, 21, 27, 33, 39, 45, 51, 57}, true, true},
		{"neighbouring positions", walkRing([]int{0, 1, 2}), []int{0, 1, 2}, true, true},
		{"both ends of the circle", walkRing([]int{0, 30, 63}), []int{0, 30, 63}, true, true},
		{"nil", nil, []int{}, false, false},
		{"empty", []impl.Node{}, []int{}, false, false},
		{"one node", []impl.Node{node(5, 5, 5, 5)}, []int{5}, false, false},
		{"one node, dead successors", []impl.Node{node(5, -1, 20, 35)}, []int{5}, false, false},
		{"two nodes that know each other", []impl.Node{node(5, 20, 20, 5), node(20, 5, 5, 20)}, []int{5, 20}, false, false},
		{"no predecessor", changed(1, node(20, -1, 35, 50)), all, true, false},
		{"dead predecessor", changed(1, node(20, 10, 35, 50)), all, true, false},
		{"farther predecessor", changed(1, node(20, 50, 35, 50)), all, true, false},
		{"itself as predecessor", changed(1, node(20, 20, 35, 50)), all, true, false},
		{"lowest node without the highest as predecessor", changed(0, node(5, 35, 20, 35)), all, true, false},
		{"dead first successor", changed(0, node(5, 50, 10, 20)), all, true, false},
		{"dead second successor", changed(0, node(5, 50, 20, 25)), all, true, false},
		{"two dead successors", changed(0, node(5, 50, 10, 15)), all, false, false},
		{"two dead successors of the highest node", changed(3, node(50, 35, 60, 2)), all, false, false},
		{"two dead successors that skip", changed(0, node(5, 50, 10, 25)), []int{5, 35, 50}, false, false},
		{"dead node", without(fourNodes(), 3), []int{5, 20, 35}, true, false},
		{"dead lowest node", without(fourNodes(), 0), []int{20, 35, 50}, true, false},
		{"dead node of Base", without(walkRing([]int{5, 20, 35}), 1), []int{5, 35}, false, false},
		{"skips up to the first successor", changed(0, node(5, 50, 35, 50)), []int{5, 35, 50}, true, false},
		{"skips up to a dead first successor", changed(0, node(5, 50, 25, 35)), []int{5, 35, 50}, true, false},
		{"skips between the successors", changed(0, node(5, 50, 20, 50)), []int{5, 20, 50}, true, false},
		{"skips between dead and live successor", changed(0, node(5, 50, 10, 35)), []int{5, 35, 50}, true, false},
		{"skips before a dead second successor", changed(0, node(5, 50, 20, 40)), []int{5, 20, 50}, true, false},
		{"highest node skips the lowest", changed(3, node(50, 35, 20, 35)), []int{20, 35, 50}, true, false},
		{"skips the lowest between the successors", changed(2, node(35, 20, 50, 20)), []int{20, 35, 50}, true, false},
		{"Base principals", joined, []int{5, 20, 35}, true, false},
		{"one principal fewer", oneFewer, []int{5, 35}, false, false},
		{"skips two", changed(0, node(5, 50, 20, 5)), []int{5, 20}, false, false},
		{"successors exchanged", changed(0, node(5, 50, 35, 20)), []int{35}, false, false},
		{"successors equal", changed(0, node(5, 50, 20, 20)), []int{20}, false, false},
		{"itself as first successor", changed(0, node(5, 50, 5, 20)), []int{5}, false, false},
		{"itself as second successor", changed(0, node(5, 50, 20, 5)), []int{5, 20}, false, false},
		{"skips all", []impl.Node{node(5, -1, 5, 5), node(20, -1, 20, 20), node(35, -1, 35, 35)}, []int{}, false, false},
	} {
		checkRing(t, c.name, c.ring, c.principals, c.safe, c.ideal)
	}
}

// Every node of an ideal ring is changed in every place; the ring is not ideal then.
func TestIdealChanged(t *testing.T) {
	for _, ideal := range [][]impl.Node{walkRing([]int{0, 30, 63}), fourNodes(), mostNodes()} {
		for i := range ideal {
			for value := -1; value < impl.Circle; value++ {
				ring := cloneRing(ideal)
				ring[i].Before = value
				if impl.RingIdeal(ring) != (value == ideal[i].Before) {
					t.Errorf("RingIdeal(%v) is wrong for the predecessor %d of node %d", ring, value, ring[i].Id)
				}
				for k := 0; k < impl.ListSize && value >= 0; k++ {
					ring := cloneRing(ideal)
					ring[i].After[k] = value
					if impl.RingIdeal(ring) != (value == ideal[i].After[k]) {
						t.Errorf("RingIdeal(%v) is wrong for successor %d of node %d", ring, value, ring[i].Id)
					}
				}
			}
		}
	}
}

func TestRingsWalked(t *testing.T) {
	rings, safe, ideal := 0, 0, 0
	eachRing(func(ring []impl.Node) {
		rings++
		isSafe, isIdeal := walkSafe(ring), walkIdeal(ring)
		if isSafe {
			safe++
		}
		if isIdeal {
			ideal++
		}
		checkRing(t, "walked", ring, walkPrincipals(ring), isSafe, isIdeal)
		if t.Failed() {
			t.FailNow()
		}
	})
	if ideal < 100 || safe < 10*ideal || rings < 2*safe {
		t.Errorf("%d rings, of which %d are safe and %d ideal, do not test enough", rings, safe, ideal)
	}
}

// badRings returns rings that are not valid, by what is wrong with them.
func badRings() map[string][]impl.Node {
	tooMany := append(mostNodes(), node(60, 57, 3, 9))
	rings := map[string][]impl.Node{
		"too many nodes":        tooMany,
		"far too many nodes":    append(mostNodes(), mostNodes()...),
		"first descends":        {node(20, 5, 35, 50), node(5, 50, 20, 35), node(35, 20, 50, 5), node(50, 35, 5, 20)},
		"last descends":         {node(5, 50, 20, 35), node(20, 5, 35, 50), node(50, 35, 5, 20), node(35, 20, 50, 5)},
		"rotated":               {node(50, 35, 5, 20), node(5, 50, 20, 35), node(20, 5, 35, 50), node(35, 20, 50, 5)},
		"first repeated":        slices.Insert(fourNodes(), 0, node(5, 50, 20, 35)),
		"last repeated":         append(fourNodes(), node(50, 35, 5, 20)),
		"repeated later":        append(fourNodes(), node(5, 50, 20, 35)),
		"repeated, other links": slices.Insert(fourNodes(), 2, node(20, -1, 50, 5)),
		"only zero values":      make([]impl.Node, 4),
		"one zero value":        make([]impl.Node, 1),
	}
	for i, n := range fourNodes() {
		at := string(rune('0' + i))
		rings["no successors, node "+at] = changed(i, node(n.Id, n.Before))
		rings["one successor, node "+at] = changed(i, node(n.Id, n.Before, n.After[0]))
		rings["three successors, node "+at] = changed(i, node(n.Id, n.Before, n.After[0], n.After[1], n.Id))
	}
	return rings
}

// checkInvalid requires what is returned for an invalid ring.
func checkInvalid(t *testing.T, name string, ring []impl.Node) {
	t.Helper()
	if impl.RingValid(ring) {
		t.Errorf("%s: RingValid(%v) holds", name, ring)
	}
	if got := impl.RingIds(ring); len(got) != 0 {
		t.Errorf("%s: RingIds(%v) = %v", name, ring, got)
	}
	if got := impl.RingPrincipals(ring); len(got) != 0 {
		t.Errorf("%s: RingPrincipals(%v) = %v", name, ring, got)
	}
	if impl.RingSafe(ring) {
		t.Errorf("%s: RingSafe(%v) holds", name, ring)
	}
	if impl.RingIdeal(ring) {
		t.Errorf("%s: RingIdeal(%v) holds", name, ring)
	}
}

func TestRingInvalid(t *testing.T) {
	for name, ring := range badRings() {
		checkInvalid(t, name, ring)
	}
	for _, ideal := range [][]impl.Node{walkRing([]int{0, 30, 63}), fourNodes(), mostNodes()} {
		for i, n := range ideal {
			for _, bad := range notPositions {
				ring := cloneRing(ideal)
				ring[i].Id = bad
				checkInvalid(t, "Id", ring)
				for k := range n.After {
					ring = cloneRing(ideal)
					ring[i].After[k] = bad
					checkInvalid(t, "After", ring)
				}
				ring = cloneRing(ideal)
				if ring[i].Before = bad; bad != -1 {
					checkInvalid(t, "Before", ring)
				}
			}
			ring := cloneRing(ideal)
			ring[i].Before = -2
			checkInvalid(t, "Before", ring)
		}
	}
}

// All positions are valid wherever a position is.
func TestRingAllPositions(t *testing.T) {
	for p := 0; p < impl.Circle; p++ {
		for _, n := range []impl.Node{node(p, -1, 5, 20), node(7, p, 5, 20), node(7, -1, p, 20), node(7, 3, 5, p), node(p, p, p, p)} {
			if ring := []impl.Node{n}; !impl.RingValid(ring) || !slices.Equal(impl.RingIds(ring), []int{n.Id}) {
				t.Errorf("RingValid(%v) = %v, RingIds is %v", ring, impl.RingValid(ring), impl.RingIds(ring))
			}
		}
	}
}

func TestRingNewCases(t *testing.T) {
	const last = impl.Circle - 1
	for _, want := range [][]impl.Node{
		fourNodes(),
		{node(5, 35, 20, 35), node(20, 5, 35, 5), node(35, 20, 5, 20)},
		{node(0, last, 1, last), node(1, 0, last, 0), node(last, 1, 0, 1)},
		{node(0, 2, 1, 2), node(1, 0, 2, 0), node(2, 1, 0, 1)},
		{node(3, 57, 9, 15), node(9, 3, 15, 21), node(15, 9, 21, 27), node(21, 15, 27, 33), node(27, 21, 33, 39), node(33, 27, 39, 45), node(39, 33, 45, 51), node(45, 39, 51, 57), node(51, 45, 57, 3), node(57, 51, 3, 9)},
	} {
		if got, ok := impl.RingNew(walkIds(want)); !ok || !sameRing(got, want) {
			t.Errorf("RingNew(%v) = %v, %v, want %v", walkIds(want), got, ok, want)
		}
	}
}

func TestRingNewInvalid(t *testing.T) {
	lists := badSets()
	lists["one node"] = []int{5}
	lists["two nodes"] = []int{5, 20}
	lists["two nodes at the ends"] = []int{0, impl.Circle - 1}
	lists["two nodes, one repeated"] = []int{5, 20, 20}
	lists["three descend"] = []int{35, 20, 5}
	lists["four, last descends"] = []int{5, 20, 50, 35}
	lists["one more than MaxNodes"] = []int{3, 9, 15, 21, 27, 33, 39, 45, 51, 57, 60}
	for name, ids := range lists {
		if ring, ok := impl.RingNew(ids); ok || len(ring) != 0 {
			t.Errorf("%s: RingNew(%v) = %v, %v", name, ids, ring, ok)
		}
	}
	for _, bad := range append(notPositions, -2, math.MinInt32, math.MaxInt32) {
		for _, ids := range [][]int{{bad, 5, 20, 35}, {5, 20, 35, bad}, {5, bad, 20, 35}, {bad, bad, bad}} {
			if ring, ok := impl.RingNew(ids); ok || len(ring) != 0 {
				t.Errorf("RingNew(%v) = %v, %v", ids, ring, ok)
			}
		}
	}
}
