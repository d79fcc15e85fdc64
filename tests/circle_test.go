package tests

import (
	"math"
	"slices"
	"testing"

	"loop.example/ringoverlay/impl"
)

// notPositions are numbers outside the circle, the nearest and the farthest ones among them.
var notPositions = []int{-1, impl.Circle, impl.Circle + 1, -impl.Circle, 2 * impl.Circle, math.MinInt, math.MinInt + 1, math.MaxInt - 1, math.MaxInt}

func up(p int) int {
	if p == impl.Circle-1 {
		return 0
	}
	return p + 1
}

func down(p int) int {
	if p == 0 {
		return impl.Circle - 1
	}
	return p - 1
}

// walkBetween follows the definition step by step.
func walkBetween(a, x, b int) bool {
	for p := up(a); p != b; p = up(p) {
		if p == x {
			return true
		}
	}
	return false
}

// walkHolds follows the definition step by step.
func walkHolds(a, b, key int) bool {
	return walkBetween(a, key, b) || key == b || a == b
}

func walkDistance(a, b int) int {
	steps := 0
	for p := a; p != b; p = up(p) {
		steps++
	}
	return steps
}

func walkNext(nodes []int, key int) int {
	p := key
	for !slices.Contains(nodes, p) {
		p = up(p)
	}
	return p
}

func walkBefore(nodes []int, key int) int {
	p := down(key)
	for !slices.Contains(nodes, p) {
		p = down(p)
	}
	return p
}

// someSets returns sets of every size: neighbouring, evenly spread and uneven ones, many of which pass the step from Circle-1 to 0.
func someSets() [][]int {
	var sets [][]int
	for size := 1; size <= impl.MaxNodes; size++ {
		for start := 0; start < impl.Circle; start += 3 {
			for _, step := range []int{1, 2, 5, 6, 13, 31} {
				for _, bend := range []int{0, 1, 4} {
					var set []int
					for i := 0; i < size; i++ {
						set = append(set, (start+i*step+i*i*bend)%impl.Circle)
					}
					slices.Sort(set)
					sets = append(sets, slices.Compact(set))
				}
			}
		}
	}
	return append(sets, []int{0}, []int{impl.Circle - 1}, []int{0, impl.Circle - 1}, []int{0, 1}, []int{impl.Circle - 2, impl.Circle - 1})
}

// badSets returns lists that are not sets of nodes, by what is wrong with them.
func badSets() map[string][]int {
	return map[string][]int{
		"nil":               nil,
		"empty":             {},
		"too long":          {0, 1, 2, 3, 4, 5, 6, 7, 8, 9, 10},
		"descending":        {20, 5},
		"last descends":     {5, 20, 35, 34},
		"rotated":           {60, 2, 5},
		"repeated":          {5, 5},
		"first repeated":    {5, 5, 20},
		"last repeated":     {5, 20, 20},
		"repeated later":    {5, 20, 5},
		"only -1":           {-1},
		"only Circle":       {impl.Circle},
		"-1 first":          {-1, 5, 20},
		"Circle last":       {5, 20, impl.Circle},
		"smallest int":      {math.MinInt, 5},
		"largest int":       {5, math.MaxInt},
		"invalid in middle": {5, impl.Circle + 3, 20},
	}
}

func TestBetweenCases(t *testing.T) {
	const last = impl.Circle - 1
	for _, c := range []struct {
		a, x, b int
		want    bool
	}{
		{5, 10, 20, true}, {5, 30, 20, false}, {20, 30, 5, true}, {20, 10, 5, false},
		{60, 2, 5, true}, {2, 60, 5, false}, {last, 0, 1, true}, {62, last, 0, true},
		{last, 0, 0, false}, {last, last, 0, false}, {5, 5, 20, false}, {5, 20, 20, false},
		{5, 6, 6, false}, {5, 6, 7, true}, {7, 6, 5, false},
		{5, 5, 5, false}, {5, 4, 5, true}, {5, 6, 5, true}, {0, 0, 0, false},
		{0, last, 0, true}, {last, last, last, false}, {last, 0, last, true}, {0, 63, 1, false}, {1, 63, 0, true},
	} {
		if got := impl.CircleBetween(c.a, c.x, c.b); got != c.want {
			t.Errorf("CircleBetween(%d, %d, %d) = %v", c.a, c.x, c.b, got)
		}
	}
}

func TestHoldsCases(t *testing.T) {
	const last = impl.Circle - 1
	for _, c := range []struct {
		a, b, key int
		want      bool
	}{
		{5, 20, 10, true}, {5, 20, 20, true}, {5, 20, 5, false}, {5, 20, 21, false}, {5, 20, 4, false},
		{60, 2, 2, true}, {60, 2, 0, true}, {60, 2, last, true}, {60, 2, 60, false}, {60, 2, 3, false},
		{last, 0, 0, true}, {last, 0, last, false}, {last, 0, 1, false},
		{5, 5, 5, true}, {5, 5, 4, true}, {5, 5, 6, true}, {0, 0, last, true}, {last, last, 0, true}, {0, 0, 0, true},
	} {
		if got := impl.CircleHolds(c.a, c.b, c.key); got != c.want {
			t.Errorf("CircleHolds(%d, %d, %d) = %v", c.a, c.b, c.key, got)
		}
	}
}

func TestDistanceCases(t *testing.T) {
	const last = impl.Circle - 1
	for _, c := range []struct{ a, b, want int }{
		{5, 20, 15}, {20, 5, 49}, {60, 2, 6}, {last, 0, 1}, {0, last, last}, {1, 0, last}, {0, 0, 0}, {last, last, 0}, {7, 7, 0},
	} {
		if got := impl.CircleDistance(c.a, c.b); got != c.want {
			t.Errorf("CircleDistance(%d, %d) = %d, want %d", c.a, c.b, got, c.want)
		}
	}
}

// Every answer about the circle is compared with a walk along it.
func TestCircleWalked(t *testing.T) {
	for a := 0; a < impl.Circle; a++ {
		for b := 0; b < impl.Circle; b++ {
			if got, want := impl.CircleDistance(a, b), walkDistance(a, b); got != want {
				t.Fatalf("CircleDistance(%d, %d) = %d, want %d", a, b, got, want)
			}
			for x := 0; x < impl.Circle; x++ {
				if got, want := impl.CircleBetween(a, x, b), walkBetween(a, x, b); got != want {
					t.Fatalf("CircleBetween(%d, %d, %d) = %v", a, x, b, got)
				}
				if got, want := impl.CircleHolds(a, b, x), walkHolds(a, b, x); got != want {
					t.Fatalf("CircleHolds(%d, %d, %d) = %v", a, b, x, got)
				}
			}
		}
	}
}

func TestCircleInvalid(t *testing.T) {
	for _, bad := range notPositions {
		for _, good := range []int{0, 1, 30, impl.Circle - 1} {
			for _, list := range [][3]int{{bad, good, good}, {good, bad, good}, {good, good, bad}, {bad, bad, good}, {bad, good, bad}, {good, bad, bad}, {bad, bad, bad}, {bad, good, 40}, {good, bad, 40}, {good, 40, bad}} {
				a, b, c := list[0], list[1], list[2]
				if impl.CircleBetween(a, b, c) {
					t.Errorf("CircleBetween(%d, %d, %d) holds", a, b, c)
				}
				if impl.CircleHolds(a, b, c) {
					t.Errorf("CircleHolds(%d, %d, %d) holds", a, b, c)
				}
			}
			for _, pair := range [][2]int{{bad, good}, {good, bad}, {bad, bad}} {
				if got := impl.CircleDistance(pair[0], pair[1]); got != -1 {
					t.Errorf("CircleDistance(%d, %d) = %d, want -1", pair[0], pair[1], got)
				}
			}
		}
	}
}

func TestNodesValid(t *testing.T) {
	for _, nodes := range [][]int{{0}, {impl.Circle - 1}, {7}, {0, impl.Circle - 1}, {5, 20}, {5, 6, 7}, {0, 1, 2, 3, 4, 5, 6, 7, 8, 9}, {54, 55, 56, 57, 58, 59, 60, 61, 62, 63}} {
		if !impl.NodesValid(nodes) {
			t.Errorf("NodesValid(%v) fails", nodes)
		}
	}
	for name, nodes := range badSets() {
		if impl.NodesValid(nodes) {
			t.Errorf("%s: NodesValid(%v) holds", name, nodes)
		}
	}
	for _, bad := range notPositions {
		for _, nodes := range [][]int{{bad}, {bad, 5}, {5, bad}, {5, bad, 20}} {
			if impl.NodesValid(nodes) {
				t.Errorf("NodesValid(%v) holds", nodes)
			}
		}
	}
}

func TestNodesCases(t *testing.T) {
	const last = impl.Circle - 1
	most := []int{3, 9, 15, 21, 27, 33, 39, 45, 51, 57}
	for _, c := range []struct {
		nodes             []int
		key, next, before int
	}{
		{[]int{5, 20}, 30, 5, 20}, {[]int{5, 20}, 5, 5, 20}, {[]int{5, 20}, 20, 20, 5}, {[]int{5, 20}, 6, 20, 5}, {[]int{5, 20}, 4, 5, 20},
		{[]int{5, 20}, 0, 5, 20}, {[]int{5, 20}, last, 5, 20}, {[]int{5, 20}, 21, 5, 20},
		{[]int{7}, 7, 7, 7}, {[]int{7}, 6, 7, 7}, {[]int{7}, 8, 7, 7}, {[]int{0}, 0, 0, 0}, {[]int{0}, last, 0, 0}, {[]int{last}, last, last, last}, {[]int{last}, 0, last, last},
		{[]int{0, last}, 0, 0, last}, {[]int{0, last}, last, last, 0}, {[]int{0, last}, 1, last, 0},
		{most, 3, 3, 57}, {most, 57, 57, 51}, {most, 58, 3, 57}, {most, 0, 3, 57}, {most, 30, 33, 27}, {most, 33, 33, 27}, {most, 34, 39, 33},
	} {
		if got := impl.NodesNext(c.nodes, c.key); got != c.next {
			t.Errorf("NodesNext(%v, %d) = %d, want %d", c.nodes, c.key, got, c.next)
		}
		if got := impl.NodesBefore(c.nodes, c.key); got != c.before {
			t.Errorf("NodesBefore(%v, %d) = %d, want %d", c.nodes, c.key, got, c.before)
		}
	}
}

func TestNodesWalked(t *testing.T) {
	for _, nodes := range someSets() {
		for key := 0; key < impl.Circle; key++ {
			if got, want := impl.NodesNext(nodes, key), walkNext(nodes, key); got != want {
				t.Fatalf("NodesNext(%v, %d) = %d, want %d", nodes, key, got, want)
			}
			if got, want := impl.NodesBefore(nodes, key), walkBefore(nodes, key); got != want {
				t.Fatalf("NodesBefore(%v, %d) = %d, want %d", nodes, key, got, want)
			}
		}
	}
}

func TestNodesInvalid(t *testing.T) {
	for name, nodes := range badSets() {
		for _, key := range []int{0, 5, 20, 30, impl.Circle - 1, -1, impl.Circle} {
			if next, before := impl.NodesNext(nodes, key), impl.NodesBefore(nodes, key); next != -1 || before != -1 {
				t.Errorf("%s: NodesNext and NodesBefore of %v and %d are %d and %d, want -1", name, nodes, key, next, before)
			}
		}
	}
	for _, nodes := range [][]int{{0}, {5, 20}, {0, 1, 2, 3, 4, 5, 6, 7, 8, 9}, {impl.Circle - 1}} {
		for _, key := range notPositions {
			if next, before := impl.NodesNext(nodes, key), impl.NodesBefore(nodes, key); next != -1 || before != -1 {
				t.Errorf("NodesNext and NodesBefore of %v and %d are %d and %d, want -1", nodes, key, next, before)
			}
		}
	}
}

func TestNodesUnmodified(t *testing.T) {
	for _, nodes := range [][]int{{5, 20, 35}, {20, 5, 35}, {5, 5}} {
		before := slices.Clone(nodes)
		impl.NodesValid(nodes)
		impl.NodesNext(nodes, 21)
		impl.NodesBefore(nodes, 21)
		if !slices.Equal(nodes, before) {
			t.Errorf("%v became %v", before, nodes)
		}
	}
}
