package tests

import (
	"math"
	"slices"
	"testing"

	"loop.example/ringoverlay/impl"
)

func TestPuzzleHashCases(t *testing.T) {
	for _, x := range []struct{ id, nonce, want int }{
		{0, 0, 60}, {0, 1, 660}, {1, 0, 539}, {0, 255, 534}, {63, 0, 153}, {63, 255, 677}, {62, 254, 567}, {31, 128, 498},
		{2, 108, 0}, {11, 39, 0}, {48, 253, 0}, {63, 59, 0}, {0, 111, 1008}, {11, 84, 1008}, {59, 167, 1008},
	} {
		if got := impl.PuzzleHash(x.id, x.nonce); got != x.want {
			t.Errorf("PuzzleHash(%d, %d) = %d, want %d", x.id, x.nonce, got, x.want)
		}
	}
}

// All hashes are compared with those of a model; each number that can be a hash is one.
func TestPuzzleHashAll(t *testing.T) {
	var times [1009]int
	for id := range impl.Circle {
		for nonce := range noncesOfAll {
			got := impl.PuzzleHash(id, nonce)
			if want := modelHashes()[id][nonce]; got != want {
				t.Fatalf("PuzzleHash(%d, %d) = %d, want %d", id, nonce, got, want)
			}
			times[got]++
		}
	}
	if slices.Contains(times[:], 0) || times[0] != 33 || times[1008] != 19 {
		t.Errorf("the numbers 0 to 1008 are hashes as often: %v", times)
	}
}

func TestPuzzleHashInvalid(t *testing.T) {
	check := func(id, nonce int) {
		if got := impl.PuzzleHash(id, nonce); got != -1 {
			t.Fatalf("PuzzleHash(%d, %d) = %d, want -1", id, nonce, got)
		}
	}
	for _, id := range notPositions {
		for _, nonce := range append([]int{0, 1, 128, impl.MaxNonce}, notNonces...) {
			check(id, nonce)
		}
	}
	for id := range impl.Circle {
		for _, nonce := range notNonces {
			check(id, nonce)
		}
	}
}

// Each of these numbers is a solution of the difficulties up to one of them, and of no greater one.
func TestPuzzleOkCases(t *testing.T) {
	for _, x := range []struct {
		name              string
		id, nonce, atMost int
	}{
		{"odd hash", 1, 0, 0}, {"odd hash, MaxNonce", 63, 255, 0}, {"hash 511", 7, 1, 0}, {"hash 1007", 18, 1, 0},
		{"twice an odd number", 41, 0, 1}, {"twice an odd number, MaxNonce", 0, 255, 1},
		{"60", 0, 0, 2}, {"996, MaxNonce", 5, 255, 2},
		{"200", 3, 0, 3}, {"248, MaxNonce", 18, 255, 3},
		{"48", 14, 0, 4}, {"208", 54, 1, 4}, {"272", 63, 254, 4}, {"1008", 0, 111, 4},
		{"32", 2, 183, 5}, {"480", 54, 254, 5}, {"192", 15, 0, 5}, {"960", 63, 245, 5}, {"896, MaxNonce", 62, 255, 5}, {"0", 63, 59, 5},
	} {
		for bits := range impl.MaxBits + 1 {
			if got := impl.PuzzleOk(x.id, x.nonce, bits); got != (bits <= x.atMost) {
				t.Errorf("%s: PuzzleOk(%d, %d, %d) = %v", x.name, x.id, x.nonce, bits, got)
			}
		}
	}
}

func TestPuzzleOkAll(t *testing.T) {
	eachPuzzle(func(id, bits int) {
		for nonce := range noncesOfAll {
			if got, want := impl.PuzzleOk(id, nonce, bits), isMultiple(modelHashes()[id][nonce], bits); got != want {
				t.Fatalf("PuzzleOk(%d, %d, %d) = %v, but the hash is %d", id, nonce, bits, got, modelHashes()[id][nonce])
			}
		}
	})
}

// Every number in its range is a solution of difficulty 0, and none outside of it is one.
func TestPuzzleOkInvalid(t *testing.T) {
	check := func(id, nonce, bits int) {
		if impl.PuzzleOk(id, nonce, bits) {
			t.Fatalf("PuzzleOk(%d, %d, %d)", id, nonce, bits)
		}
	}
	eachPuzzle(func(id, bits int) {
		for _, nonce := range notNonces {
			check(id, nonce, bits)
		}
	})
	for nonce := range noncesOfAll {
		for _, id := range notPositions {
			for bits := range impl.MaxBits + 1 {
				check(id, nonce, bits)
			}
		}
		for _, bits := range notBits {
			for id := range impl.Circle {
				check(id, nonce, bits)
			}
		}
	}
	for _, id := range notPositions {
		for _, nonce := range notNonces {
			for _, bits := range append([]int{0, impl.MaxBits}, notBits...) {
				check(id, nonce, bits)
			}
		}
	}
}

// solutions has the smallest solution for each position and, in each row, for the difficulties 0 to MaxBits.
func solutions() [impl.Circle][impl.MaxBits + 1]int {
	return [impl.Circle][impl.MaxBits + 1]int{
		{0, 0, 0, 7, 15, 15}, {0, 1, 22, 25, 26, 45}, {0, 0, 5, 5, 19, 19}, {0, 0, 0, 0, 131, 140},
		{0, 1, 4, 4, 7, 11}, {0, 0, 15, 15, 29, 69}, {0, 1, 1, 12, 13, 27}, {0, 0, 0, 6, 9, 9},
		{0, 1, 2, 10, 10, 20}, {0, 4, 15, 15, 15, 39}, {0, 0, 3, 3, 7, 7}, {0, 1, 1, 4, 4, 4},
		{0, 1, 1, 1, 16, 61}, {0, 3, 18, 33, 33, 33}, {0, 0, 0, 0, 0, 64}, {0, 0, 0, 0, 0, 0},
		{0, 0, 0, 0, 0, 2}, {0, 0, 0, 0, 0, 0}, {0, 0, 0, 0, 0, 8}, {0, 2, 2, 2, 8, 168},
		{0, 2, 2, 2, 2, 2}, {0, 2, 2, 2, 11, 11}, {0, 0, 1, 1, 1, 92}, {0, 1, 1, 6, 6, 90},
		{0, 2, 6, 6, 9, 124}, {0, 0, 0, 6, 6, 6}, {0, 1, 3, 3, 8, 8}, {0, 0, 2, 4, 4, 4},
		{0, 1, 1, 8, 8, 8}, {0, 0, 0, 0, 5, 5}, {0, 0, 19, 19, 71, 71}, {0, 1, 1, 2, 2, 2},
		{0, 0, 0, 12, 19, 48}, {0, 0, 7, 9, 9, 15}, {0, 0, 0, 0, 0, 0}, {0, 1, 13, 38, 38, 194},
		{0, 1, 1, 1, 2, 49}, {0, 1, 4, 18, 37, 65}, {0, 1, 1, 5, 18, 42}, {0, 1, 4, 4, 4, 9},
		{0, 0, 0, 1, 1, 1}, {0, 0, 4, 8, 8, 8}, {0, 0, 0, 0, 0, 34}, {0, 3, 4, 4, 24, 33},
		{0, 0, 3, 19, 24, 24}, {0, 0, 0, 0, 7, 7}, {0, 2, 17, 23, 25, 26}, {0, 0, 3, 3, 3, 58},
		{0, 2, 2, 10, 10, 10}, {0, 0, 0, 23, 30, 40}, {0, 2, 3, 6, 6, 6}, {0, 1, 11, 11, 15, 15},
		{0, 0, 2, 2, 4, 21}, {0, 2, 2, 5, 5, 35}, {0, 1, 1, 1, 1, 5}, {0, 1, 1, 1, 1, 12},
		{0, 0, 0, 1, 1, 3}, {0, 0, 0, 0, 0, 10}, {0, 0, 0, 11, 33, 64}, {0, 0, 0, 0, 7, 7},
		{0, 0, 0, 7, 9, 9}, {0, 2, 4, 4, 4, 9}, {0, 1, 1, 1, 1, 9}, {0, 1, 1, 1, 1, 39},
	}
}

func TestPuzzleSolveAll(t *testing.T) {
	eachPuzzle(func(id, bits int) {
		got := impl.PuzzleSolve(id, bits)
		if want := solutions()[id][bits]; got != want || got != modelSolve(id, bits) {
			t.Errorf("PuzzleSolve(%d, %d) = %d, want %d and in the model %d", id, bits, got, want, modelSolve(id, bits))
		}
	})
}

// The smallest solutions go from 0 to 194: no position needs MaxNonce, and none is without a solution.
func TestPuzzleSolveEnds(t *testing.T) {
	counts := map[int]int{}
	eachPuzzle(func(id, bits int) { counts[impl.PuzzleSolve(id, bits)]++ })
	largest := 0
	for nonce := range counts {
		largest = max(largest, nonce)
	}
	if counts[0] != 140 || counts[-1] != 0 || largest != 194 {
		t.Errorf("%d smallest solutions are 0, %d are missing, and the largest one is %d", counts[0], counts[-1], largest)
	}
}

func TestPuzzleSolveInvalid(t *testing.T) {
	check := func(id, bits int) {
		if got := impl.PuzzleSolve(id, bits); got != -1 {
			t.Fatalf("PuzzleSolve(%d, %d) = %d, want -1", id, bits, got)
		}
	}
	for _, id := range notPositions {
		for bits := range impl.MaxBits + 1 {
			check(id, bits)
		}
		for _, bits := range notBits {
			check(id, bits)
		}
	}
	for id := range impl.Circle {
		for _, bits := range notBits {
			check(id, bits)
		}
	}
}

// eleven returns a path of MaxNodes+1 positions.
func eleven(start int) []int {
	return allKeys()[start : start+impl.MaxNodes+1]
}

// badPathLists returns lists that are not valid and have no position on two paths, by what is wrong with them.
func badPathLists() map[string][][]int {
	most := mostPaths()
	return map[string][][]int{
		"one path too many":               append(slices.Clone(most), []int{}),
		"one path too many, nil, first":   append([][]int{nil}, most...),
		"one path too many, all empty":    make([][]int, impl.MaxPaths+1),
		"one path too many, not empty":    {{0}, {1}, {2}, {3}, {4}, {5}, {6}, {7}},
		"one path too many, last empty":   {{0}, {1}, {2}, {3}, {4}, {5}, {6}, {}},
		"many paths":                      make([][]int, 1000),
		"long path":                       {eleven(0)},
		"long path, at the end":           {eleven(53)},
		"long path first":                 {eleven(0), {20}, {30}},
		"long path between":               {{20}, eleven(0), {30}},
		"long path last":                  {{20}, {30}, eleven(0)},
		"long path beside empty ones":     {{}, eleven(0), nil},
		"two long paths":                  {eleven(0), eleven(20)},
		"long path of one position":       {slices.Repeat([]int{7}, impl.MaxNodes+1)},
		"very long path of one position":  {{1}, slices.Repeat([]int{7}, 1000)},
		"last of MaxPaths is long":        {{}, {}, {}, {}, {}, {}, eleven(0)},
		"first of MaxPaths is long":       {eleven(0), {}, {}, {}, {}, {}, {}},
		"too many and too long":           {eleven(0), {}, {}, {}, {}, {}, {}, {}},
		"-1 alone":                        {{-1}},
		"Circle alone":                    {{impl.Circle}},
		"-1 beside an empty path":         {{}, {-1}},
		"Circle after an empty path":      {nil, {5, impl.Circle}},
		"smallest integer":                {{5}, {math.MinInt}},
		"largest integer":                 {{math.MaxInt}, {5}},
		"no positions, on two paths":      {{-1}, {-1}},
		"no position at the end of paths": {{0, 1, -1}, {2, 3, impl.Circle}},
	}
}

// goodPathLists are valid lists that are used with one number replaced.
func goodPathLists() [][][]int {
	return [][][]int{{{7}}, {{7, 20}, {30}}, {{0}, {}, {63, 5}}, {{}, {10, 10, 11}, nil}, mostPaths()}
}

// eachBadPathList calls check with these lists and with lists in which one number is not a position.
func eachBadPathList(check func(name string, paths [][]int)) {
	for name, paths := range badPathLists() {
		check(name, paths)
	}
	for _, paths := range goodPathLists() {
		for i, path := range paths {
			for j := range path {
				for _, bad := range notPositions {
					other := slices.Clone(paths)
					other[i] = replacedAt(path, j, bad)
					check("one number", other)
				}
			}
		}
	}
}

func TestPathsInvalid(t *testing.T) {
	eachBadPathList(func(name string, paths [][]int) {
		if impl.PathsDisjoint(paths) {
			t.Fatalf("%s: PathsDisjoint(%v)", name, paths)
		}
		for _, bad := range append([][]int{nil, {7}, {-1}, {impl.Circle}, {0, 20, 30}, allKeys()}, notPositions) {
			if got := impl.PathsHonest(paths, bad); got != -1 {
				t.Fatalf("%s: PathsHonest(%v, %v) = %d, want -1", name, paths, bad, got)
			}
		}
	})
}

func TestPathsDisjointCases(t *testing.T) {
	ten := allKeys()[:impl.MaxNodes]
	for _, x := range []struct {
		name  string
		paths [][]int
		want  bool
	}{
		{"nil", nil, true},
		{"no path", [][]int{}, true},
		{"one empty path", [][]int{{}}, true},
		{"one nil path", [][]int{nil}, true},
		{"two empty paths", [][]int{{}, {}}, true},
		{"empty and nil", [][]int{{}, nil}, true},
		{"MaxPaths empty paths", make([][]int, impl.MaxPaths), true},
		{"one position", [][]int{{7}}, true},
		{"the ends of the circle", [][]int{{0}, {63}}, true},
		{"position 0 on two paths", [][]int{{0}, {0}}, false},
		{"position 63 on two paths", [][]int{{63}, {63}}, false},
		{"position 0 and empty paths", [][]int{{}, {0}, {}}, true},
		{"an empty path between others", [][]int{{7}, {}, {8}}, true},
		{"an empty path between equal ones", [][]int{{7}, {}, {7}}, false},
		{"an empty path first", [][]int{{}, {7}, {8}}, true},
		{"an empty path before equal ones", [][]int{{}, {7}, {7}}, false},
		{"an empty path last", [][]int{{7}, {8}, {}}, true},
		{"an empty path behind equal ones", [][]int{{7}, {7}, {}}, false},
		{"several empty paths", [][]int{{}, {7}, nil, {}, {8, 9}, {}, nil}, true},
		{"several empty paths and equal ones", [][]int{{}, {7}, nil, {}, {8, 7}, {}, nil}, false},
		{"twice on one path", [][]int{{7, 7}}, true},
		{"twice on one path, apart", [][]int{{7, 8, 7}, {9}}, true},
		{"twice on the last path", [][]int{{9}, {7, 8, 7}}, true},
		{"twice on one path and on another", [][]int{{7, 8, 7}, {9, 7}}, false},
		{"each path has a position twice", [][]int{{7, 7}, {8, 8}, {9, 9}}, true},
		{"the whole path is one position", [][]int{slices.Repeat([]int{7}, impl.MaxNodes), {8}}, true},
		{"on neighbouring paths", [][]int{{1, 2}, {3, 4}, {4, 5}}, false},
		{"on the first and the last path", [][]int{{1, 2}, {3, 4}, {5, 1}}, false},
		{"on the first two paths", [][]int{{1, 2}, {2, 3}, {4, 5}}, false},
		{"the first of one and the last of another", [][]int{{1, 2, 3}, {4, 5, 1}}, false},
		{"the last of one and the first of another", [][]int{{1, 2, 3}, {3, 4, 5}}, false},
		{"the last ones of both", [][]int{{1, 2, 3}, {4, 5, 3}}, false},
		{"the first ones of both", [][]int{{3, 1, 2}, {3, 4, 5}}, false},
		{"in the middle of both", [][]int{{1, 3, 2}, {4, 3, 5}}, false},
		{"equal paths", [][]int{{1, 2}, {1, 2}}, false},
		{"on all paths", [][]int{{1, 7}, {7, 2}, {7}}, false},
		{"MaxNodes positions", [][]int{ten}, true},
		{"MaxNodes positions, first", [][]int{ten, {10}, {63}}, true},
		{"MaxNodes positions, last", [][]int{{10}, {63}, ten}, true},
		{"MaxNodes positions, the last one twice", [][]int{ten, {10}, {9}}, false},
		{"MaxNodes positions, twice", [][]int{ten, allKeys()[54:]}, true},
		{"MaxNodes positions, twice the same", [][]int{ten, ten}, false},
		{"MaxPaths paths", mostPaths(), true},
		{"MaxPaths paths, one position each", [][]int{{0}, {1}, {2}, {3}, {4}, {5}, {6}}, true},
		{"MaxPaths paths, first and last", [][]int{{0}, {1}, {2}, {3}, {4}, {5}, {6, 0}}, false},
		{"MaxPaths paths, last two", [][]int{{0}, {1}, {2}, {3}, {4}, {5}, {6, 5}}, false},
	} {
		if got := impl.PathsDisjoint(x.paths); got != x.want {
			t.Errorf("%s: PathsDisjoint(%v) = %v", x.name, x.paths, got)
		}
	}
}

func TestPathsDisjointAll(t *testing.T) {
	eachPathList(func(paths [][]int) {
		if got, want := impl.PathsDisjoint(paths), modelDisjoint(paths); got != want {
			t.Fatalf("PathsDisjoint(%v) = %v", paths, got)
		}
	})
}

// Whichever position it is, and on whichever two of MaxPaths paths, it is found; once on one of them it is allowed.
func TestPathsDisjointEachPosition(t *testing.T) {
	for p := range impl.Circle {
		for from := range impl.MaxPaths {
			for to := range from {
				paths := make([][]int, impl.MaxPaths)
				paths[from] = []int{p, p}
				if !impl.PathsDisjoint(paths) {
					t.Fatalf("PathsDisjoint(%v) is false", paths)
				}
				paths[to] = []int{p}
				if impl.PathsDisjoint(paths) {
					t.Fatalf("PathsDisjoint(%v)", paths)
				}
			}
		}
	}
}

func TestPathsAnswerCases(t *testing.T) {
	const low, high = math.MinInt, math.MaxInt
	for _, x := range []struct {
		name    string
		answers []int
		want    int
	}{
		{"nil", nil, -1},
		{"no answer", []int{}, -1},
		{"one", []int{4}, 4},
		{"one, 0", []int{0}, 0},
		{"one, -1", []int{-1}, -1},
		{"one, negative", []int{-7}, -7},
		{"one, the smallest", []int{low}, low},
		{"one, the largest", []int{high}, high},
		{"two equal ones", []int{4, 4}, 4},
		{"half of two", []int{4, 5}, -1},
		{"two of three, first", []int{4, 4, 5}, 4},
		{"two of three, last", []int{5, 4, 4}, 4},
		{"two of three, apart", []int{4, 5, 4}, 4},
		{"three others", []int{4, 5, 6}, -1},
		{"half of four, first", []int{4, 4, 5, 6}, -1},
		{"half of four, last", []int{5, 6, 4, 4}, -1},
		{"half of four, between", []int{5, 4, 4, 6}, -1},
		{"both halves of four", []int{4, 5, 4, 5}, -1},
		{"three of four", []int{4, 5, 4, 4}, 4},
		{"two of five", []int{4, 4, 5, 6, 7}, -1},
		{"two of five, twice", []int{4, 4, 5, 5, 7}, -1},
		{"three of five, last", []int{5, 6, 4, 4, 4}, 4},
		{"three of five, apart", []int{4, 5, 4, 6, 4}, 4},
		{"half of six, first", []int{4, 4, 4, 5, 6, 7}, -1},
		{"half of six, last", []int{5, 6, 7, 4, 4, 4}, -1},
		{"half of six, between", []int{5, 4, 4, 4, 6, 7}, -1},
		{"both halves of six", []int{4, 4, 4, 5, 5, 5}, -1},
		{"less than half of six", []int{4, 4, 5, 6, 7, 8}, -1},
		{"one more than half of six, first", []int{4, 4, 4, 4, 6, 7}, 4},
		{"one more than half of six, last", []int{6, 7, 4, 4, 4, 4}, 4},
		{"one more than half of six, between", []int{6, 4, 4, 4, 4, 7}, 4},
		{"three of seven, first", []int{4, 4, 4, 5, 6, 7, 8}, -1},
		{"three of seven, last", []int{5, 6, 7, 8, 4, 4, 4}, -1},
		{"three of seven, twice", []int{4, 4, 4, 5, 5, 5, 8}, -1},
		{"four of seven, first", []int{4, 4, 4, 4, 6, 7, 8}, 4},
		{"four of seven, last", []int{6, 7, 8, 4, 4, 4, 4}, 4},
		{"four of seven, between", []int{6, 4, 4, 4, 4, 7, 8}, 4},
		{"four of seven, apart", []int{4, 6, 4, 7, 4, 8, 4}, 4},
		{"four of seven, others equal", []int{5, 4, 5, 4, 5, 4, 4}, 4},
		{"all of seven", []int{4, 4, 4, 4, 4, 4, 4}, 4},
		{"seven others", []int{1, 2, 3, 4, 5, 6, 7}, -1},
		{"-1 of all", []int{-1, -1, -1}, -1},
		{"-1 of most", []int{-1, 4, -1}, -1},
		{"not -1", []int{4, -1, 4}, 4},
		{"-1 and another half", []int{4, -1, 4, -1}, -1},
		{"0 of most", []int{0, 0, 4}, 0},
		{"negative", []int{-7, 7, -7}, -7},
		{"the smallest", []int{low, high, low}, low},
		{"the largest", []int{high, low, high}, high},
		{"nearly the largest", []int{high, high - 1, high, high - 1}, -1},
		{"one too many, all equal", []int{4, 4, 4, 4, 4, 4, 4, 4}, -1},
		{"one too many, 0", make([]int, impl.MaxPaths+1), -1},
		{"many too many", make([]int, 1000), -1},
	} {
		if got := impl.PathsAnswer(x.answers); got != x.want {
			t.Errorf("%s: PathsAnswer(%v) = %d, want %d", x.name, x.answers, got, x.want)
		}
	}
}

func TestPathsAnswerAll(t *testing.T) {
	eachAnswers(func(answers []int) {
		got := impl.PathsAnswer(answers)
		if want, _ := modelAnswer(answers); got != want {
			t.Fatalf("PathsAnswer(%v) = %d, want %d", answers, got, want)
		}
	})
}

// With more than MaxPaths answers there is no answer, whatever they are.
func TestPathsAnswerTooMany(t *testing.T) {
	for _, answer := range []int{0, 1, -2, 63, math.MinInt, math.MaxInt} {
		for many := range 70 {
			want := answer
			if many == 0 || many > impl.MaxPaths {
				want = -1
			}
			if got := impl.PathsAnswer(slices.Repeat([]int{answer}, many)); got != want {
				t.Fatalf("PathsAnswer of %d times %d is %d, want %d", many, answer, got, want)
			}
		}
	}
}

func TestPathsHonestCases(t *testing.T) {
	three := [][]int{{1, 2}, {3, 4, 5}, {6}}
	for _, x := range []struct {
		name  string
		paths [][]int
		bad   []int
		want  int
	}{
		{"nil", nil, nil, 0},
		{"no path", [][]int{}, []int{}, 0},
		{"no path, one bad node", nil, []int{7}, 0},
		{"one empty path", [][]int{{}}, nil, 1},
		{"one empty path, bad nodes", [][]int{{}}, []int{0, 7}, 1},
		{"one nil path, bad nodes", [][]int{nil}, []int{0, 7}, 1},
		{"empty paths only", make([][]int, impl.MaxPaths), allKeys(), impl.MaxPaths},
		{"an empty path first", [][]int{{}, {7}}, []int{7}, 1},
		{"an empty path last", [][]int{{7}, nil}, []int{7}, 1},
		{"an empty path between", [][]int{{7}, {}, {8}}, []int{7, 8}, 1},
		{"empty paths around", [][]int{{}, {7}, nil}, []int{7}, 2},
		{"empty paths, and the others honest", [][]int{{}, {7}, nil}, []int{8}, 3},
		{"no bad node", three, nil, 3},
		{"on no path", three, []int{7}, 3},
		{"several on no path", three, []int{0, 7, 63}, 3},
		{"the first of a path", three, []int{1}, 2},
		{"the last of a path", three, []int{2}, 2},
		{"in the middle of a path", three, []int{4}, 2},
		{"the only one of a path", three, []int{6}, 2},
		{"two on one path", three, []int{3, 5}, 2},
		{"all on one path", three, []int{3, 4, 5}, 2},
		{"on two paths", three, []int{2, 6}, 1},
		{"on all paths", three, []int{1, 5, 6}, 0},
		{"on all paths, others first", three, []int{0, 7, 6, 5, 1}, 0},
		{"all positions", three, allKeys(), 0},
		{"repeated", three, []int{4, 4, 4, 4}, 2},
		{"repeated, on no path", three, []int{7, 7, 7, 7}, 3},
		{"no positions", three, notPositions, 3},
		{"no positions, and one", three, append(slices.Clone(notPositions), 3), 2},
		{"one, and no positions", three, append([]int{6}, notPositions...), 2},
		{"one bad node on two paths", [][]int{{7, 1}, {2, 7}, {3}}, []int{7}, 1},
		{"one bad node on every path", [][]int{{7, 1}, {2, 7}, {7}}, []int{7}, 0},
		{"one bad node on every path, and an empty one", [][]int{{7, 1}, {}, {7}}, []int{7}, 1},
		{"twice on one path", [][]int{{7, 1, 7}, {2}}, []int{7}, 1},
		{"position 0", [][]int{{0}, {63}}, []int{0}, 1},
		{"position 63", [][]int{{0}, {63}}, []int{63}, 1},
		{"MaxNodes positions, the last one", [][]int{{0, 1, 2, 3, 4, 5, 6, 7, 8, 9}}, []int{9}, 0},
		{"MaxNodes positions, none of them", [][]int{{0, 1, 2, 3, 4, 5, 6, 7, 8, 9}}, []int{10, 11}, 1},
		{"MaxPaths paths", mostPaths(), []int{0, 63}, 5},
		{"MaxPaths paths, no bad node", mostPaths(), nil, impl.MaxPaths},
		{"MaxPaths paths, all bad", mostPaths(), allKeys(), 0},
	} {
		if got := impl.PathsHonest(x.paths, x.bad); got != x.want {
			t.Errorf("%s: PathsHonest(%v, %v) = %d, want %d", x.name, x.paths, x.bad, got, x.want)
		}
	}
}

func TestPathsHonestAll(t *testing.T) {
	check := func(paths [][]int, bad []int) {
		if got, want := impl.PathsHonest(paths, bad), modelHonest(paths, bad); got != want {
			t.Fatalf("PathsHonest(%v, %v) = %d, want %d", paths, bad, got, want)
		}
	}
	eachHonest(check)
	eachVote(check)
}

// There may be any number of bad nodes.
func TestPathsHonestManyBad(t *testing.T) {
	paths := [][]int{{1, 2}, {}, {62, 63}}
	many := slices.Repeat([]int{5, -1, impl.Circle, 30}, 25000)
	if got := impl.PathsHonest(paths, many); got != 3 {
		t.Errorf("PathsHonest with many bad nodes is %d, want 3", got)
	}
	if got := impl.PathsHonest(paths, append(many, 63)); got != 2 {
		t.Errorf("PathsHonest with many bad nodes and 63 is %d, want 2", got)
	}
}
