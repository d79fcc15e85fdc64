package tests

import (
	"slices"
	"sync"
	"testing"

	"loop.example/ringoverlay/impl"
)

// modelFingers walks the 1, 2, 4, ... steps of each finger.
func modelFingers(nodes []int, id int) []int {
	var fingers []int
	for steps := 1; steps < impl.Circle; steps *= 2 {
		p := id
		for range steps {
			p = up(p)
		}
		fingers = append(fingers, walkNext(nodes, p))
	}
	return fingers
}

func modelNext(nodes []int, id, key int) int {
	fingers := modelFingers(nodes, id)
	next := fingers[0]
	if walkHolds(id, next, key) {
		return next
	}
	for _, f := range fingers[1:] {
		if walkBetween(id, f, key) {
			next = f // a later finger goes before an earlier one
		}
	}
	return next
}

func modelPath(nodes []int, id, key int) []int {
	path := []int{id}
	for id != walkNext(nodes, key) {
		id = modelNext(nodes, id, key)
		path = append(path, id)
	}
	return path
}

// modelRange asks for the holder of each position.
func modelRange(nodes []int, a, b int) []int {
	holders := []int{walkNext(nodes, a)}
	for p := a; p != b; {
		p = up(p)
		if n := walkNext(nodes, p); !slices.Contains(holders, n) {
			holders = append(holders, n)
		}
	}
	return holders
}

// turned returns the set in which all nodes are moved upward.
func turned(nodes []int, by int) []int {
	var set []int
	for _, n := range nodes {
		set = append(set, (n+by)%impl.Circle)
	}
	slices.Sort(set)
	return set
}

// longWay has a path of 7 nodes, from 0 to 40: each node asks for less than half of the way, and the last but two has no finger between it and the key but the first one.
func longWay() []int {
	return []int{0, 16, 24, 28, 30, 31, 40}
}

// lookupSets returns all single nodes, pairs that lie close together and far apart, sets of each size, and sets with long paths. They are shared by the tests, which do not change them.
var lookupSets = sync.OnceValue(func() [][]int {
	var sets [][]int
	add := func(list ...[]int) {
		for _, set := range list {
			if !slices.ContainsFunc(sets, func(s []int) bool { return slices.Equal(s, set) }) {
				sets = append(sets, set)
			}
		}
	}
	for a := range impl.Circle {
		add([]int{a})
	}
	for _, gap := range []int{1, 2, 3, 4, 5, 8, 15, 16, 17, 31, 32} {
		for by := 0; by < impl.Circle; by += 7 {
			add(turned([]int{0, gap}, by))
		}
		add([]int{impl.Circle - 1 - gap, impl.Circle - 1}, turned([]int{0, gap}, impl.Circle-1))
	}
	for _, set := range [][]int{longWay(), {0, 1, 3, 7, 15, 31, 63}, {0, 1, 2, 4, 8, 16, 32}, {0, 32, 48, 56, 60, 62, 63}, {0, 1, 2, 3, 4, 5, 6, 7, 8, 9}, {0, 7, 14, 21, 28, 35, 42, 49, 56, 63}, {0, 32, 33, 34, 48, 49, 56, 60, 62, 63}} {
		for _, by := range []int{0, 1, 14, 31, 33, 50, 63} {
			add(turned(set, by))
		}
	}
	for i, set := range someSets() {
		if i%7 == 0 {
			add(set)
		}
	}
	return sets
})

// eachMember calls check for all nodes of these sets.
func eachMember(check func(nodes []int, id int)) {
	for _, nodes := range lookupSets() {
		for _, id := range nodes {
			check(nodes, id)
		}
	}
}

// eachLookup calls check for all nodes of these sets and all keys, which are the positions of nodes and those just above and below them too.
func eachLookup(check func(nodes []int, id, key int)) {
	eachMember(func(nodes []int, id int) {
		for key := range impl.Circle {
			check(nodes, id, key)
		}
	})
}

// eachPath calls check with all these lookups and their paths, which are not empty.
func eachPath(t *testing.T, check func(nodes []int, key int, path []int)) {
	t.Helper()
	longest := 0
	eachLookup(func(nodes []int, id, key int) {
		path := impl.LookupPath(nodes, id, key)
		if len(path) == 0 {
			t.Fatalf("LookupPath(%v, %d, %d) is empty", nodes, id, key)
		}
		longest = max(longest, len(path))
		check(nodes, key, path)
	})
	if longest < 7 {
		t.Errorf("no path has more than %d nodes", longest)
	}
}

// eachRange calls check for some of these sets, of each size, and all ranges: single positions and those that go all the way around are among them.
func eachRange(check func(nodes []int, a, b int)) {
	for i, nodes := range lookupSets() {
		if i%4 != 0 {
			continue
		}
		for a := range impl.Circle {
			for b := range impl.Circle {
				check(nodes, a, b)
			}
		}
	}
}
