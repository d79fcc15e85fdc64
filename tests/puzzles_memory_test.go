package tests

import (
	"slices"
	"testing"

	"loop.example/ringoverlay/impl"
)

// memoryPaths has disjoint lists and others, with empty paths, repeated positions and equal paths, and lists that are not valid.
func memoryPaths() [][][]int {
	lists := [][][]int{nil, {}, {nil}, {{}, {}}, {{7}, {7}}, {{9, 5, 9}, {}, {1, 63, 0}}, {{63, 0, 7}, {20, 30}, {30, 31}}, mostPaths(), make([][]int, impl.MaxPaths)}
	for _, paths := range badPathLists() {
		lists = append(lists, paths)
	}
	return lists
}

// roomyPaths returns the paths and two more, all with free capacity behind them.
func roomyPaths(paths [][]int) [][]int {
	roomy := [][]int{}
	for _, path := range append(slices.Clone(paths), []int{-98}, []int{-99}) {
		short, _ := spacious(path, -99)
		roomy = append(roomy, short)
	}
	return roomy
}

// memoryOf returns copies of the paths, once as they are, and once with the free capacity behind them.
func memoryOf(paths [][]int) [][]int {
	contents := [][]int{}
	for _, path := range paths {
		contents = append(contents, slices.Clone(path), slices.Clone(path[:cap(path)]))
	}
	return contents
}

// checkPathsUnmodified requires that a call changes neither the list nor a path of it, nor the free capacity behind them.
func checkPathsUnmodified(t *testing.T, name string, original [][]int, do func([][]int)) {
	t.Helper()
	whole := roomyPaths(original)
	want := memoryOf(whole)
	do(whole[:len(original)])
	if got := memoryOf(whole); !slices.EqualFunc(got, want, slices.Equal) {
		t.Fatalf("%s changed %v to %v", name, want, got)
	}
}

func TestPathsUnmodified(t *testing.T) {
	for _, paths := range memoryPaths() {
		checkPathsUnmodified(t, "PathsDisjoint", paths, func(paths [][]int) { impl.PathsDisjoint(paths) })
		for _, bad := range [][]int{nil, {7}, {63, 0, 9, 9}, notPositions, allKeys()} {
			checkPathsUnmodified(t, "PathsHonest, paths", paths, func(paths [][]int) { impl.PathsHonest(paths, bad) })
			checkUnmodified(t, "PathsHonest, bad", bad, -99, func(bad []int) { impl.PathsHonest(paths, bad) })
		}
	}
}

func TestPathsAnswerUnmodified(t *testing.T) {
	for _, answers := range [][]int{nil, {}, {4}, {5, 4}, {7, 4, 4}, {4, -1, 5, 4}, {9, 9, 3, 3, 2, 9, 9}, {9, 8, 7, 6, 5, 4, 3}, {9, 8, 7, 6, 5, 4, 3, 2}} {
		checkUnmodified(t, "PathsAnswer", answers, -99, func(answers []int) { impl.PathsAnswer(answers) })
	}
}

// The paths, and the bad nodes, may share memory; what counts is what they are.
func TestPathsSharingMemory(t *testing.T) {
	all := allKeys()
	for _, x := range []struct {
		name     string
		paths    [][]int
		disjoint bool
		honest   int
	}{
		{"neighbouring parts", [][]int{all[0:5], all[5:10], all[10:20]}, true, 2},
		{"overlapping parts", [][]int{all[0:6], all[5:10], all[10:20]}, false, 1},
		{"one part twice", [][]int{all[10:15], all[10:15]}, false, 2},
		{"one position in two parts", [][]int{all[0:10], all[9:10]}, false, 0},
		{"empty parts", [][]int{all[7:7], all[7:7], all[6:7]}, true, 2},
	} {
		if got := impl.PathsDisjoint(x.paths); got != x.disjoint {
			t.Errorf("%s: PathsDisjoint(%v) = %v", x.name, x.paths, got)
		}
		if got := impl.PathsHonest(x.paths, all[5:10]); got != x.honest {
			t.Errorf("%s: PathsHonest(%v, %v) = %d, want %d", x.name, x.paths, all[5:10], got, x.honest)
		}
	}
}
