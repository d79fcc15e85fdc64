package tests

import (
	"slices"
	"testing"

	"loop.example/ringoverlay/impl"
)

// sumsCall is a call of a function of chapter 21 that returns a list, with all arguments but one list.
type sumsCall struct {
	name string
	do   func(list []int) []int
}

// sumsCalls returns calls that succeed, that change nothing or find nothing, and that fail.
func sumsCalls() []sumsCall {
	calls := []sumsCall{{"SumsOf", impl.SumsOf}, {"SumsDiffer of a list and itself", func(list []int) []int {
		got, _ := impl.SumsDiffer(list, list)
		return got
	}}}
	for _, leaf := range []int{0, 1, 7, 8, impl.Leaves - 1, impl.Leaves, -1} {
		for _, value := range []int{0, 1, impl.SumSize - 1, impl.SumSize, -1} {
			calls = append(calls, sumsCall{"SumsSet", func(sums []int) []int { return impl.SumsSet(sums, leaf, value) }})
		}
	}
	for _, other := range memoryTrees() {
		calls = append(calls, sumsCall{"SumsDiffer, first", func(list []int) []int {
			got, _ := impl.SumsDiffer(list, other)
			return got
		}}, sumsCall{"SumsDiffer, second", func(list []int) []int {
			got, _ := impl.SumsDiffer(other, list)
			return got
		}})
	}
	return calls
}

// memoryTrees has trees that differ in no, some and all leaves, and lists that are not trees.
func memoryTrees() [][]int {
	trees := [][]int{nil, {}, make([]int, treeSize), make([]int, treeSize-1), make([]int, treeSize+1)}
	for _, values := range [][]int{equalValues(0), equalValues(impl.SumSize - 1), mixedValues(), replacedAt(mixedValues(), 3, 7)} {
		trees = append(trees, modelSums(values))
	}
	return trees
}

// memoryLists has these trees, and values of leaves.
func memoryLists() [][]int {
	return append(memoryTrees(), equalValues(0), equalValues(1), mixedValues(), replacedAt(mixedValues(), 0, impl.SumSize), equalValues(0)[1:], []int{7})
}

func TestSumsMemory(t *testing.T) {
	for _, list := range memoryLists() {
		for _, call := range sumsCalls() {
			checkMemory(t, call.name, list, -99, call.do)
		}
	}
}

// The empty lists of invalid arguments and of equal trees are results too.
func TestSumsEmptyMemory(t *testing.T) {
	for _, list := range [][]int{nil, {}, make([]int, treeSize), make([]int, 3)} {
		for _, call := range sumsCalls() {
			checkEmptyMemory(t, call.name, list, 1, 2, call.do)
		}
	}
	checkEmptyMemory(t, "SumsDiffer of equal trees", modelSums(mixedValues()), 1, 2, func(sums []int) []int {
		got, _ := impl.SumsDiffer(sums, slices.Clone(sums))
		return got
	})
}

func TestSumsUnmodified(t *testing.T) {
	for _, list := range memoryLists() {
		for _, call := range sumsCalls() {
			checkUnmodified(t, call.name, list, -99, func(list []int) { call.do(list) })
		}
	}
}
