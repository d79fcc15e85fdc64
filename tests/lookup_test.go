package tests

import (
	"slices"
	"testing"

	"loop.example/ringoverlay/impl"
)

func TestFingersCases(t *testing.T) {
	four, most := []int{5, 20, 35, 50}, walkIds(mostNodes())
	tight := []int{0, 1, 2, 3, 4, 5, 6, 7, 8, 9}
	for _, c := range []struct {
		nodes []int
		id    int
		want  []int
	}{
		{four, 5, []int{20, 20, 20, 20, 35, 50}}, {four, 20, []int{35, 35, 35, 35, 50, 5}}, {four, 35, []int{50, 50, 50, 50, 5, 5}}, {four, 50, []int{5, 5, 5, 5, 5, 20}},
		{most, 3, []int{9, 9, 9, 15, 21, 39}}, {most, 57, []int{3, 3, 3, 3, 9, 27}}, {most, 51, []int{57, 57, 57, 3, 3, 21}},
		{tight, 0, []int{1, 2, 4, 8, 0, 0}}, {tight, 5, []int{6, 7, 9, 0, 0, 0}}, {tight, 9, []int{0, 0, 0, 0, 0, 0}},
		{[]int{7}, 7, []int{7, 7, 7, 7, 7, 7}}, {[]int{0}, 0, []int{0, 0, 0, 0, 0, 0}}, {[]int{63}, 63, []int{63, 63, 63, 63, 63, 63}},
		{[]int{0, 1}, 0, []int{1, 0, 0, 0, 0, 0}}, {[]int{0, 1}, 1, []int{0, 0, 0, 0, 0, 0}},
		{[]int{0, 63}, 0, []int{63, 63, 63, 63, 63, 63}}, {[]int{0, 63}, 63, []int{0, 63, 63, 63, 63, 63}},
		{[]int{0, 32}, 0, []int{32, 32, 32, 32, 32, 32}}, {[]int{0, 31}, 0, []int{31, 31, 31, 31, 31, 0}}, {[]int{0, 33}, 33, []int{0, 0, 0, 0, 0, 33}},
	} {
		if got := impl.FingersOf(c.nodes, c.id); !slices.Equal(got, c.want) {
			t.Errorf("FingersOf(%v, %d) = %v, want %v", c.nodes, c.id, got, c.want)
		}
	}
}

func TestLookupNextCases(t *testing.T) {
	four, tight := []int{5, 20, 35, 50}, []int{0, 1, 2, 3, 4, 5, 6, 7, 8, 9}
	for _, c := range []struct {
		nodes         []int
		id, key, want int
	}{
		{four, 5, 5, 50}, {four, 5, 4, 50}, {four, 5, 0, 50}, {four, 5, 63, 50}, {four, 5, 51, 50},
		{four, 5, 6, 20}, {four, 5, 19, 20}, {four, 5, 20, 20}, {four, 5, 21, 20}, {four, 5, 35, 20}, {four, 5, 36, 35}, {four, 5, 50, 35},
		{four, 50, 50, 20}, {four, 50, 51, 5}, {four, 50, 63, 5}, {four, 50, 0, 5}, {four, 50, 5, 5}, {four, 50, 6, 5}, {four, 50, 20, 5}, {four, 50, 21, 20}, {four, 50, 49, 20},
		{tight, 0, 0, 8}, {tight, 0, 10, 8}, {tight, 0, 63, 8}, {tight, 0, 9, 8}, {tight, 0, 8, 4}, {tight, 0, 1, 1}, {tight, 6, 8, 7}, {tight, 9, 5, 0}, {tight, 9, 9, 0}, {tight, 9, 10, 0},
		{[]int{7}, 7, 7, 7}, {[]int{7}, 7, 6, 7}, {[]int{7}, 7, 8, 7}, {[]int{0}, 0, 63, 0}, {[]int{63}, 63, 0, 63},
		{[]int{0, 1}, 0, 0, 1}, {[]int{0, 1}, 0, 1, 1}, {[]int{0, 1}, 0, 2, 1}, {[]int{0, 1}, 1, 1, 0}, {[]int{0, 1}, 1, 0, 0}, {[]int{0, 1}, 1, 2, 0},
		{[]int{0, 63}, 63, 63, 0}, {[]int{0, 63}, 63, 0, 0}, {[]int{0, 63}, 63, 1, 0}, {[]int{0, 63}, 0, 0, 63}, {[]int{0, 63}, 0, 62, 63},
		{longWay(), 30, 40, 31}, {longWay(), 28, 40, 30}, {longWay(), 31, 32, 40}, {longWay(), 0, 31, 16},
	} {
		if got := impl.LookupNext(c.nodes, c.id, c.key); got != c.want {
			t.Errorf("LookupNext(%v, %d, %d) = %d, want %d", c.nodes, c.id, c.key, got, c.want)
		}
	}
}

func TestLookupPathCases(t *testing.T) {
	four, tight := []int{5, 20, 35, 50}, []int{0, 1, 2, 3, 4, 5, 6, 7, 8, 9}
	most := walkIds(mostNodes())
	for _, c := range []struct {
		nodes   []int
		id, key int
		want    []int
	}{
		{four, 5, 5, []int{5}}, {four, 5, 4, []int{5}}, {four, 5, 0, []int{5}}, {four, 5, 63, []int{5}}, {four, 5, 51, []int{5}},
		{four, 5, 6, []int{5, 20}}, {four, 5, 20, []int{5, 20}}, {four, 5, 21, []int{5, 20, 35}}, {four, 5, 35, []int{5, 20, 35}},
		{four, 5, 36, []int{5, 35, 50}}, {four, 5, 40, []int{5, 35, 50}}, {four, 5, 50, []int{5, 35, 50}},
		{four, 20, 36, []int{20, 35, 50}}, {four, 20, 51, []int{20, 50, 5}}, {four, 20, 5, []int{20, 50, 5}}, {four, 20, 6, []int{20}}, {four, 20, 20, []int{20}},
		{four, 50, 50, []int{50}}, {four, 50, 36, []int{50}}, {four, 50, 51, []int{50, 5}}, {four, 50, 63, []int{50, 5}}, {four, 50, 0, []int{50, 5}}, {four, 50, 5, []int{50, 5}},
		{four, 50, 6, []int{50, 5, 20}}, {four, 50, 20, []int{50, 5, 20}}, {four, 50, 21, []int{50, 20, 35}}, {four, 50, 35, []int{50, 20, 35}},
		{most, 3, 57, []int{3, 39, 51, 57}}, {most, 3, 3, []int{3}}, {most, 3, 58, []int{3}}, {most, 57, 3, []int{57, 3}},
		{tight, 0, 0, []int{0}}, {tight, 0, 10, []int{0}}, {tight, 0, 9, []int{0, 8, 9}}, {tight, 0, 8, []int{0, 4, 6, 7, 8}}, {tight, 9, 5, []int{9, 0, 4, 5}}, {tight, 9, 10, []int{9, 0}},
		{[]int{7}, 7, 7, []int{7}}, {[]int{7}, 7, 6, []int{7}}, {[]int{7}, 7, 8, []int{7}}, {[]int{0}, 0, 63, []int{0}}, {[]int{63}, 63, 0, []int{63}},
		{[]int{0, 1}, 0, 1, []int{0, 1}}, {[]int{0, 1}, 0, 2, []int{0}}, {[]int{0, 1}, 1, 2, []int{1, 0}}, {[]int{0, 1}, 1, 0, []int{1, 0}}, {[]int{0, 1}, 1, 1, []int{1}},
		{[]int{0, 63}, 63, 0, []int{63, 0}}, {[]int{0, 63}, 63, 1, []int{63}}, {[]int{0, 63}, 0, 1, []int{0, 63}}, {[]int{0, 63}, 0, 63, []int{0, 63}},
		{longWay(), 0, 40, []int{0, 16, 24, 28, 30, 31, 40}}, {longWay(), 0, 32, []int{0, 16, 24, 28, 30, 31, 40}}, {longWay(), 0, 31, []int{0, 16, 24, 28, 30, 31}}, {longWay(), 0, 41, []int{0}},
		{[]int{2, 10, 14, 16, 17, 26, 50}, 50, 26, []int{50, 2, 10, 14, 16, 17, 26}},
	} {
		if got := impl.LookupPath(c.nodes, c.id, c.key); !slices.Equal(got, c.want) {
			t.Errorf("LookupPath(%v, %d, %d) = %v, want %v", c.nodes, c.id, c.key, got, c.want)
		}
	}
}

func TestLookupRangeCases(t *testing.T) {
	four, tight := []int{5, 20, 35, 50}, []int{0, 1, 2, 3, 4, 5, 6, 7, 8, 9}
	for _, c := range []struct {
		nodes []int
		a, b  int
		want  []int
	}{
		{four, 18, 36, []int{20, 35, 50}}, {four, 6, 20, []int{20}}, {four, 6, 21, []int{20, 35}}, {four, 5, 6, []int{5, 20}}, {four, 50, 51, []int{50, 5}}, {four, 51, 5, []int{5}}, {four, 63, 0, []int{5}}, {four, 40, 0, []int{50, 5}},
		{four, 5, 5, []int{5}}, {four, 20, 20, []int{20}}, {four, 21, 21, []int{35}}, {four, 19, 19, []int{20}}, {four, 51, 51, []int{5}}, {four, 0, 0, []int{5}}, {four, 63, 63, []int{5}},
		{four, 5, 4, []int{5, 20, 35, 50}}, {four, 6, 5, []int{20, 35, 50, 5}}, {four, 21, 20, []int{35, 50, 5, 20}}, {four, 51, 50, []int{5, 20, 35, 50}}, {four, 10, 9, []int{20, 35, 50, 5}}, {four, 0, 63, []int{5, 20, 35, 50}}, {four, 1, 0, []int{5, 20, 35, 50}}, {four, 63, 62, []int{5, 20, 35, 50}},
		{four, 30, 10, []int{35, 50, 5, 20}}, {four, 30, 22, []int{35, 50, 5, 20}}, {four, 30, 5, []int{35, 50, 5}}, {four, 30, 6, []int{35, 50, 5, 20}},
		{tight, 0, 63, tight}, {tight, 1, 9, []int{1, 2, 3, 4, 5, 6, 7, 8, 9}}, {tight, 1, 10, []int{1, 2, 3, 4, 5, 6, 7, 8, 9, 0}}, {tight, 10, 63, []int{0}}, {tight, 10, 9, tight}, {tight, 9, 8, []int{9, 0, 1, 2, 3, 4, 5, 6, 7, 8}},
		{[]int{0, 63}, 63, 0, []int{63, 0}}, {[]int{0, 63}, 0, 63, []int{0, 63}}, {[]int{0, 63}, 0, 0, []int{0}}, {[]int{0, 63}, 1, 1, []int{63}}, {[]int{0, 63}, 1, 0, []int{63, 0}}, {[]int{0, 63}, 63, 62, []int{63, 0}}, {[]int{0, 63}, 2, 1, []int{63, 0}},
		{[]int{7}, 7, 7, []int{7}}, {[]int{7}, 8, 8, []int{7}}, {[]int{7}, 7, 6, []int{7}}, {[]int{7}, 8, 7, []int{7}}, {[]int{7}, 6, 8, []int{7}}, {[]int{7}, 0, 63, []int{7}}, {[]int{7}, 63, 0, []int{7}},
	} {
		if got := impl.LookupRange(c.nodes, c.a, c.b); !slices.Equal(got, c.want) {
			t.Errorf("LookupRange(%v, %d, %d) = %v, want %v", c.nodes, c.a, c.b, got, c.want)
		}
	}
}

// Every answer about lookups is compared with that of a model that walks along the circle.
func TestLookupsWalked(t *testing.T) {
	eachMember(func(nodes []int, id int) {
		if got, want := impl.FingersOf(nodes, id), modelFingers(nodes, id); !slices.Equal(got, want) {
			t.Fatalf("FingersOf(%v, %d) = %v, want %v", nodes, id, got, want)
		}
	})
	eachLookup(func(nodes []int, id, key int) {
		if got, want := impl.LookupNext(nodes, id, key), modelNext(nodes, id, key); got != want {
			t.Fatalf("LookupNext(%v, %d, %d) = %d, want %d", nodes, id, key, got, want)
		}
		if got, want := impl.LookupPath(nodes, id, key), modelPath(nodes, id, key); !slices.Equal(got, want) {
			t.Fatalf("LookupPath(%v, %d, %d) = %v, want %v", nodes, id, key, got, want)
		}
	})
	eachRange(func(nodes []int, a, b int) {
		if got, want := impl.LookupRange(nodes, a, b), modelRange(nodes, a, b); !slices.Equal(got, want) {
			t.Fatalf("LookupRange(%v, %d, %d) = %v, want %v", nodes, a, b, got, want)
		}
	})
}

// checkNoLookup requires that the functions that ask from a node refuse the arguments.
func checkNoLookup(t *testing.T, name string, nodes []int, id, key int) {
	t.Helper()
	if got := impl.LookupNext(nodes, id, key); got != -1 {
		t.Errorf("%s: LookupNext(%v, %d, %d) = %d, want -1", name, nodes, id, key, got)
	}
	if got := impl.LookupPath(nodes, id, key); len(got) != 0 {
		t.Errorf("%s: LookupPath(%v, %d, %d) = %v, want none", name, nodes, id, key, got)
	}
}

func TestLookupBadSets(t *testing.T) {
	for name, nodes := range badSets() {
		positions := slices.Concat(nodes, []int{0, 5, 20, impl.Circle - 1, -1, impl.Circle})
		for _, a := range positions {
			if got := impl.FingersOf(nodes, a); len(got) != 0 {
				t.Errorf("%s: FingersOf(%v, %d) = %v, want none", name, nodes, a, got)
			}
			for _, b := range positions {
				checkNoLookup(t, name, nodes, a, b)
				if got := impl.LookupRange(nodes, a, b); len(got) != 0 {
					t.Errorf("%s: LookupRange(%v, %d, %d) = %v, want none", name, nodes, a, b, got)
				}
			}
		}
	}
}

// goodSets are sets that are used with other arguments that are invalid.
func goodSets() [][]int {
	return [][]int{{0}, {7}, {impl.Circle - 1}, {5, 20}, {0, impl.Circle - 1}, longWay(), walkIds(mostNodes()), {0, 1, 2, 3, 4, 5, 6, 7, 8, 9}}
}

func TestLookupNotMember(t *testing.T) {
	for _, nodes := range goodSets() {
		others := slices.Clone(notPositions)
		for p := range impl.Circle {
			if !slices.Contains(nodes, p) {
				others = append(others, p)
			}
		}
		for _, id := range others {
			if got := impl.FingersOf(nodes, id); len(got) != 0 {
				t.Errorf("FingersOf(%v, %d) = %v, want none", nodes, id, got)
			}
			for _, key := range []int{0, 5, 7, 20, impl.Circle - 1, id, -1, impl.Circle} {
				checkNoLookup(t, "not a member", nodes, id, key)
			}
		}
	}
}

func TestLookupBadKeys(t *testing.T) {
	for _, nodes := range goodSets() {
		for _, bad := range notPositions {
			for _, id := range nodes {
				checkNoLookup(t, "not a key", nodes, id, bad)
			}
			for _, good := range []int{0, 5, 7, 20, 30, impl.Circle - 1} {
				for _, ends := range [][2]int{{bad, good}, {good, bad}, {bad, bad}} {
					if got := impl.LookupRange(nodes, ends[0], ends[1]); len(got) != 0 {
						t.Errorf("LookupRange(%v, %d, %d) = %v, want none", nodes, ends[0], ends[1], got)
					}
				}
			}
		}
	}
}
