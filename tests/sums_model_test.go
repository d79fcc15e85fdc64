package tests

import (
	"math"
	"slices"
	"testing"

	"loop.example/ringoverlay/impl"
)

// treeSize is the number of nodes of a tree of sums.
const treeSize = 2*impl.Leaves - 1

// notSums are numbers that are not sums, the nearest and the farthest ones among them.
var notSums = []int{-1, impl.SumSize, impl.SumSize + 1, -impl.SumSize, 1 - impl.SumSize, 2 * impl.SumSize, math.MinInt, math.MinInt + 1, math.MaxInt - 1, math.MaxInt}

// notLeaves are numbers that are not those of leaves, the numbers of nodes among them.
var notLeaves = []int{-1, -2, -impl.Leaves, 1 - impl.Leaves, impl.Leaves, impl.Leaves + 1, treeSize - 1, treeSize, 100, math.MinInt, math.MinInt + 1, math.MaxInt - impl.Leaves, math.MaxInt - 1, math.MaxInt}

// equalValues returns the values of leaves that all have the same one.
func equalValues(value int) []int {
	return slices.Repeat([]int{value}, impl.Leaves)
}

// mixedValues has both ends of the range, in leaves that have the same parent and in others.
func mixedValues() []int {
	return []int{990, 0, 1, 500, 17, 31, 48, 5, 989, 2, 700, 300, 0, 0, 990, 123}
}

// randomValues returns values that are the same in every run; those of an odd seed are small ones, so that many are equal.
func randomValues(seed int) []int {
	random, values := spread(seed), []int{}
	for range impl.Leaves {
		values = append(values, random.below([]int{impl.SumSize, 2}[seed%2]))
	}
	return values
}

// leafValues returns the values of the leaves of several trees.
func leafValues() [][]int {
	lists := [][]int{equalValues(0), equalValues(impl.SumSize - 1), equalValues(1), mixedValues(), slices.Repeat([]int{0, impl.SumSize - 1}, impl.Leaves/2), slices.Repeat([]int{impl.SumSize - 1, 0}, impl.Leaves/2)}
	ascending := []int{}
	for k := range impl.Leaves {
		ascending = append(ascending, k)
	}
	for seed := range 6 {
		lists = append(lists, randomValues(seed))
	}
	return append(lists, ascending)
}

// replacedAt returns the list with another element.
func replacedAt(list []int, i, value int) []int {
	changed := slices.Clone(list)
	changed[i] = value
	return changed
}

// modelSum returns the sum of a node of the tree with the given values, as the document defines it from the node down to the leaves.
func modelSum(values []int, node int) int {
	if node >= 15 {
		return values[node-15]
	}
	return (31*modelSum(values, 2*node+1) + 17*modelSum(values, 2*node+2) + 5) % 991
}

func modelSums(values []int) []int {
	sums := []int{}
	for node := range 31 {
		sums = append(sums, modelSum(values, node))
	}
	return sums
}

// modelDiffer compares the node of two trees and, if its sums differ, all of the left one of the nodes below it before the right one.
func modelDiffer(a, b []int, node int) (leaves []int, compared int) {
	if a[node] == b[node] {
		return nil, 1
	}
	if node >= 15 {
		return []int{node - 15}, 1
	}
	left, n := modelDiffer(a, b, 2*node+1)
	right, m := modelDiffer(a, b, 2*node+2)
	return slices.Concat(left, right), 1 + n + m
}

// leavesBelow returns the leaves of which a node is the parent, the grandparent and so on.
func leavesBelow(node int) []int {
	leaves := []int{}
	for k := range impl.Leaves {
		if slices.Contains(wayUp(k), node) {
			leaves = append(leaves, k)
		}
	}
	return leaves
}

// wayUp returns the nodes from a leaf to the root.
func wayUp(leaf int) []int {
	way := []int{}
	for node := 15 + leaf; ; node = (node - 1) / 2 {
		way = append(way, node)
		if node == 0 {
			return way
		}
	}
}

// differingLeaves returns the leaves in which values differ, whether a comparison from the root would find them or not.
func differingLeaves(a, b []int) []int {
	leaves := []int{}
	for k := range a {
		if a[k] != b[k] {
			leaves = append(leaves, k)
		}
	}
	return leaves
}

// hidden returns other values of the first and the last leaf below a node, with which the node has the same sum, and no node on the ways from these leaves to it.
func hidden(t *testing.T, values []int, node int) []int {
	t.Helper()
	leaves := leavesBelow(node)
	first, last := leaves[0], leaves[len(leaves)-1]
	changed := replacedAt(values, first, (values[first]+1)%991)
	for x := range 991 {
		changed[last] = x
		if modelSum(changed, node) == modelSum(values, node) {
			return changed
		}
	}
	t.Fatalf("no tree has the sum of node %d of %v and another value of leaf %d", node, values, first)
	return nil
}

// newValues returns values that a leaf is set to: the ends of the range, its own value, and those near it.
func newValues(own int) []int {
	return []int{0, 1, impl.SumSize - 2, impl.SumSize - 1, own, (own + 1) % impl.SumSize, (own + impl.SumSize - 1) % impl.SumSize, 495}
}

// eachSet calls check with trees, and each leaf and new values of it.
func eachSet(check func(values []int, leaf, value int)) {
	for _, values := range leafValues() {
		for leaf, own := range values {
			for _, value := range newValues(own) {
				check(values, leaf, value)
			}
		}
	}
}

// eachValues calls check with the values of two trees that differ in no leaf, in one, in two, in leaves below a node that has the same sum in both, and in others.
func eachValues(t *testing.T, check func(a, b []int)) {
	t.Helper()
	eachSet(func(values []int, leaf, value int) {
		check(values, replacedAt(values, leaf, value))
	})
	for _, values := range leafValues() {
		for k := range impl.Leaves {
			for l := range k {
				check(values, replacedAt(replacedAt(values, k, (values[k]+1)%991), l, (values[l]+990)%991))
			}
		}
		for node := range impl.Leaves - 1 {
			same := hidden(t, values, node)
			check(values, same)
			for k := range impl.Leaves {
				check(values, replacedAt(same, k, (same[k]+7)%991))
			}
		}
		for _, others := range leafValues() {
			check(values, others)
		}
	}
}

// eachSubset calls check with the values of two trees for each set of leaves in which they differ.
func eachSubset(check func(a, b []int)) {
	values := mixedValues()
	for bits := range 1 << impl.Leaves {
		others := slices.Clone(values)
		for k := range others {
			others[k] = (others[k] + (bits>>k&1)*(100+k)) % 991
		}
		check(values, others)
	}
}

// eachTrees calls check with the trees of all of these values.
func eachTrees(t *testing.T, check func(a, b []int)) {
	t.Helper()
	eachValues(t, func(a, b []int) { check(impl.SumsOf(a), impl.SumsOf(b)) })
	eachSubset(func(a, b []int) { check(impl.SumsOf(a), impl.SumsOf(b)) })
}
