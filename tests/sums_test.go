package tests

import (
	"slices"
	"testing"

	"loop.example/ringoverlay/impl"
)

func TestSumsOfCases(t *testing.T) {
	for _, x := range []struct {
		name          string
		above, values []int
	}{
		{"all 0", []int{846, 864, 864, 245, 245, 245, 245, 5, 5, 5, 5, 5, 5, 5, 5}, equalValues(0)},
		{"all SumSize-1", []int{226, 273, 273, 914, 914, 914, 914, 948, 948, 948, 948, 948, 948, 948, 948}, equalValues(impl.SumSize - 1)},
		{"0 and SumSize-1", []int{709, 345, 345, 420, 420, 420, 420, 979, 979, 979, 979, 979, 979, 979, 979}, slices.Repeat([]int{0, impl.SumSize - 1}, impl.Leaves/2)},
		{"SumSize-1 and 0", []int{363, 792, 792, 739, 739, 739, 739, 965, 965, 965, 965, 965, 965, 965, 965}, slices.Repeat([]int{impl.SumSize - 1, 0}, impl.Leaves/2)},
		{"ascending", []int{919, 533, 306, 711, 17, 314, 611, 22, 118, 214, 310, 406, 502, 598, 694}, []int{0, 1, 2, 3, 4, 5, 6, 7, 8, 9, 10, 11, 12, 13, 14, 15}},
		{"mixed", []int{527, 699, 330, 616, 200, 108, 580, 965, 608, 68, 587, 968, 48, 5, 83}, mixedValues()},
		{"first leaf 1", []int{755, 925, 864, 215, 245, 245, 245, 36, 5, 5, 5, 5, 5, 5, 5}, replacedAt(equalValues(0), 0, 1)},
		{"second leaf 1", []int{892, 354, 864, 772, 245, 245, 245, 22, 5, 5, 5, 5, 5, 5, 5}, replacedAt(equalValues(0), 1, 1)},
		{"last leaf of the left half 1", []int{535, 822, 864, 245, 534, 245, 245, 5, 5, 5, 22, 5, 5, 5, 5}, replacedAt(equalValues(0), 7, 1)},
		{"first leaf of the right half 1", []int{892, 864, 925, 245, 245, 215, 245, 5, 5, 5, 5, 36, 5, 5, 5}, replacedAt(equalValues(0), 8, 1)},
		{"last leaf 1", []int{132, 864, 822, 245, 245, 245, 534, 5, 5, 5, 5, 5, 5, 5, 22}, replacedAt(equalValues(0), 15, 1)},
	} {
		if got, want := impl.SumsOf(x.values), slices.Concat(x.above, x.values); !slices.Equal(got, want) {
			t.Errorf("%s: SumsOf(%v) = %v, want %v", x.name, x.values, got, want)
		}
	}
}

func TestSumsSetCases(t *testing.T) {
	zeros, tops := equalValues(0), equalValues(impl.SumSize-1)
	for _, x := range []struct {
		name        string
		values      []int
		leaf, value int
		changed     map[int]int
	}{
		{"first leaf of zeros", zeros, 0, 990, map[int]int{0: 937, 1: 803, 3: 275, 7: 965, 15: 990}},
		{"last leaf of zeros", zeros, 15, 990, map[int]int{0: 569, 2: 906, 6: 947, 14: 979, 30: 990}},
		{"leaf 6 of zeros", zeros, 6, 31, map[int]int{0: 637, 1: 122, 4: 726, 10: 966, 21: 31}},
		{"first leaf of the highest sums", tops, 0, 0, map[int]int{0: 135, 1: 334, 3: 884, 7: 979, 15: 0}},
		{"last leaf of the highest sums", tops, 15, 0, map[int]int{0: 503, 2: 231, 6: 212, 14: 965, 30: 0}},
		{"leaf 9 of mixed", mixedValues(), 9, 0, map[int]int{0: 29, 2: 359, 5: 45, 11: 934, 24: 0}},
		{"leaf 14 of mixed", mixedValues(), 14, 0, map[int]int{0: 216, 2: 370, 6: 116, 14: 114, 29: 0}},
		{"first leaf to its own value", mixedValues(), 0, 990, nil},
		{"last leaf to its own value", mixedValues(), 15, 123, nil},
		{"0 to 0", zeros, 0, 0, nil},
		{"highest sum to itself", tops, 15, 990, nil},
	} {
		sums := impl.SumsOf(x.values)
		want := slices.Clone(sums)
		for node, sum := range x.changed {
			want[node] = sum
		}
		if got := impl.SumsSet(sums, x.leaf, x.value); !slices.Equal(got, want) {
			t.Errorf("%s: SumsSet(%v, %d, %d) = %v, want %v", x.name, sums, x.leaf, x.value, got, want)
		}
	}
}

// changedBy returns the values with the given leaves increased by 1.
func changedBy(values []int, leaves ...int) []int {
	changed := slices.Clone(values)
	for _, k := range leaves {
		changed[k] = (changed[k] + 1) % impl.SumSize
	}
	return changed
}

func TestSumsDifferCases(t *testing.T) {
	zeros, all := equalValues(0), []int{0, 1, 2, 3, 4, 5, 6, 7, 8, 9, 10, 11, 12, 13, 14, 15}
	for _, x := range []struct {
		name     string
		a, b     []int
		leaves   []int
		compared int
	}{
		{"equal", mixedValues(), mixedValues(), nil, 1},
		{"zeros", zeros, zeros, nil, 1},
		{"first", zeros, changedBy(zeros, 0), []int{0}, 9},
		{"last", zeros, changedBy(zeros, 15), []int{15}, 9},
		{"one, by the most", zeros, replacedAt(zeros, 6, impl.SumSize-1), []int{6}, 9},
		{"common parent", zeros, changedBy(zeros, 0, 1), []int{0, 1}, 9},
		{"last common parent", mixedValues(), changedBy(mixedValues(), 14, 15), []int{14, 15}, 9},
		{"neighbours without a common parent", zeros, changedBy(zeros, 1, 2), []int{1, 2}, 11},
		{"common quarter", zeros, changedBy(zeros, 4, 7), []int{4, 7}, 11},
		{"common half", zeros, changedBy(zeros, 8, 12), []int{8, 12}, 13},
		{"neighbours in a half", zeros, changedBy(zeros, 3, 4), []int{3, 4}, 13},
		{"first and last", zeros, changedBy(zeros, 0, 15), []int{0, 15}, 15},
		{"neighbours in two halves", mixedValues(), changedBy(mixedValues(), 7, 8), []int{7, 8}, 15},
		{"two pairs in two halves", zeros, changedBy(zeros, 2, 3, 10, 11), []int{2, 3, 10, 11}, 15},
		{"a half", zeros, changedBy(zeros, 0, 1, 2, 3, 4, 5, 6, 7), []int{0, 1, 2, 3, 4, 5, 6, 7}, 17},
		{"one in each quarter", zeros, changedBy(zeros, 1, 4, 11, 14), []int{1, 4, 11, 14}, 23},
		{"each second one", zeros, changedBy(zeros, 0, 2, 4, 6, 8, 10, 12, 14), []int{0, 2, 4, 6, 8, 10, 12, 14}, 31},
		{"all", zeros, equalValues(impl.SumSize - 1), all, 31},
		{"all of mixed", mixedValues(), changedBy(mixedValues(), all...), all, 31},
		{"parents with the same sum", replacedAt(zeros, 1, 31), replacedAt(zeros, 0, 17), nil, 1},
		{"parents with the same sum beside a leaf that differs", replacedAt(zeros, 1, 31), changedBy(replacedAt(zeros, 0, 17), 2), []int{2}, 9},
		{"parents with the same sum before a leaf that differs", replacedAt(zeros, 1, 31), changedBy(replacedAt(zeros, 0, 17), 15), []int{15}, 9},
		{"parents with the same sum after a leaf that differs", replacedAt(zeros, 15, 31), changedBy(replacedAt(zeros, 14, 17), 0), []int{0}, 9},
		{"parents with the same sum between leaves that differ", replacedAt(zeros, 7, 31), changedBy(replacedAt(zeros, 6, 17), 4, 8), []int{4, 8}, 15},
	} {
		a, b := impl.SumsOf(x.a), impl.SumsOf(x.b)
		if leaves, compared := impl.SumsDiffer(a, b); !slices.Equal(leaves, x.leaves) || compared != x.compared {
			t.Errorf("%s: SumsDiffer(%v, %v) = %v, %d, want %v, %d", x.name, a, b, leaves, compared, x.leaves, x.compared)
		}
	}
}

// Leaves that differ are not compared below a node with the same sum in both trees; those elsewhere are.
func TestSumsDifferHidden(t *testing.T) {
	for _, values := range leafValues() {
		a := impl.SumsOf(values)
		for node := range impl.Leaves - 1 {
			same := hidden(t, values, node)
			if leaves, compared := impl.SumsDiffer(a, impl.SumsOf(same)); len(leaves) != 0 || compared != 1 {
				t.Fatalf("the trees of %v and %v have the same sum of node %d, but SumsDiffer returns %v, %d", values, same, node, leaves, compared)
			}
			for k := range impl.Leaves {
				if slices.Contains(leavesBelow(node), k) {
					continue
				}
				b := impl.SumsOf(changedBy(same, k))
				if leaves, compared := impl.SumsDiffer(a, b); !slices.Equal(leaves, []int{k}) || compared != 9 {
					t.Fatalf("SumsDiffer(%v, %v) = %v, %d, but outside node %d only leaf %d differs", a, b, leaves, compared, node, k)
				}
			}
		}
	}
}

// The answers are compared with those of a model that goes from the root down.
func TestSumsModelled(t *testing.T) {
	for seed := range 500 {
		values := randomValues(seed)
		if got, want := impl.SumsOf(values), modelSums(values); !slices.Equal(got, want) {
			t.Fatalf("SumsOf(%v) = %v, want %v", values, got, want)
		}
	}
	eachSet(func(values []int, leaf, value int) {
		sums := modelSums(values)
		if got, want := impl.SumsSet(sums, leaf, value), modelSums(replacedAt(values, leaf, value)); !slices.Equal(got, want) {
			t.Fatalf("SumsSet(%v, %d, %d) = %v, want %v", sums, leaf, value, got, want)
		}
	})
	eachTrees(t, func(a, b []int) {
		want, nodes := modelDiffer(a, b, 0)
		if leaves, compared := impl.SumsDiffer(a, b); !slices.Equal(leaves, want) || compared != nodes {
			t.Fatalf("SumsDiffer(%v, %v) = %v, %d, want %v, %d", a, b, leaves, compared, want, nodes)
		}
	})
}

// In a long history of changes the tree stays that of its values.
func TestSumsHistory(t *testing.T) {
	random, values := spread(7), mixedValues()
	sums := impl.SumsOf(values)
	for range 2000 {
		leaf, value := random.below(impl.Leaves), random.below(impl.SumSize)
		values[leaf] = value
		sums = impl.SumsSet(sums, leaf, value)
		if want := modelSums(values); !slices.Equal(sums, want) {
			t.Fatalf("SumsSet of leaf %d to %d returns %v, want %v", leaf, value, sums, want)
		}
	}
}

func TestSumsOfInvalid(t *testing.T) {
	lists := [][]int{nil, {}, {1}, {-1}, make([]int, impl.Leaves-1), make([]int, impl.Leaves+1), make([]int, treeSize), make([]int, 100), equalValues(-1), equalValues(impl.SumSize)}
	for _, values := range leafValues() {
		lists = append(lists, values[1:], values[:impl.Leaves-1], append(slices.Clone(values), 0), modelSums(values))
		for k := range values {
			for _, n := range notSums {
				lists = append(lists, replacedAt(values, k, n))
			}
		}
	}
	for _, values := range lists {
		if got := impl.SumsOf(values); len(got) != 0 {
			t.Errorf("SumsOf(%v) = %v, want none", values, got)
		}
	}
}

func checkNoSet(t *testing.T, sums []int, leaf, value int) {
	t.Helper()
	if got := impl.SumsSet(sums, leaf, value); len(got) != 0 {
		t.Errorf("SumsSet(%v, %d, %d) = %v, want none", sums, leaf, value, got)
	}
}

func checkNoDiffer(t *testing.T, a, b []int) {
	t.Helper()
	if leaves, compared := impl.SumsDiffer(a, b); len(leaves) != 0 || compared != -1 {
		t.Errorf("SumsDiffer(%v, %v) = %v, %d, want none", a, b, leaves, compared)
	}
}

func TestSumsSetOutOfRange(t *testing.T) {
	for _, values := range leafValues() {
		sums := impl.SumsOf(values)
		for _, leaf := range notLeaves {
			for _, value := range []int{0, values[0], impl.SumSize - 1, impl.SumSize} {
				checkNoSet(t, sums, leaf, value)
			}
		}
		for leaf := range values {
			for _, value := range notSums {
				checkNoSet(t, sums, leaf, value)
			}
		}
	}
}

// wrongLengths returns lists that would be trees if some sums were added or removed.
func wrongLengths(sums []int) [][]int {
	last := sums[treeSize-1]
	return [][]int{nil, {}, {sums[0]}, sums[:impl.Leaves-1], sums[impl.Leaves-1:], sums[1:], sums[:treeSize-1], append([]int{sums[0]}, sums...), append(slices.Clone(sums), 0), append(slices.Clone(sums), last), slices.Concat(sums, sums), append(slices.Clone(sums), make([]int, 100)...)}
}

// upFrom makes the sums above a node follow from those below them, as a tree with a wrong sum further down would have them.
func upFrom(sums []int, node int) []int {
	changed := slices.Clone(sums)
	for node > 0 {
		node = (node - 1) / 2
		changed[node] = (31*changed[2*node+1] + 17*changed[2*node+2] + 5) % 991
	}
	return changed
}

// wrongSums returns trees with one wrong sum, and those in which the sums above a wrong one follow from it.
func wrongSums(sums []int) [][]int {
	var lists [][]int
	for node, sum := range sums {
		wrong := append([]int{sum + impl.SumSize, sum - impl.SumSize, (sum + 1) % impl.SumSize, (sum + impl.SumSize - 1) % impl.SumSize, (sum + 495) % impl.SumSize}, notSums...)
		for _, n := range wrong {
			lists = append(lists, replacedAt(sums, node, n))
			// The sum of a leaf is right for whatever it is, if it is in range and the others follow from it.
			if above := upFrom(replacedAt(sums, node, n), node); node < impl.Leaves-1 || n < 0 || n >= impl.SumSize {
				lists = append(lists, above)
			}
		}
	}
	return append(lists, make([]int, treeSize), slices.Repeat([]int{sums[0]}, treeSize))
}

// eachBadTree calls check with lists that are not trees, and the tree that they were made from.
func eachBadTree(check func(good, bad []int)) {
	for _, values := range leafValues() {
		good := modelSums(values)
		for _, bad := range slices.Concat(wrongLengths(good), wrongSums(good)) {
			check(good, bad)
		}
	}
}

// Setting the leaf that is wrong, or one below the node that is wrong, does not make a tree of an invalid one.
func TestSumsSetInvalid(t *testing.T) {
	eachBadTree(func(good, bad []int) {
		for leaf := range impl.Leaves {
			for _, value := range []int{0, impl.SumSize - 1, good[impl.Leaves-1+leaf]} {
				checkNoSet(t, bad, leaf, value)
			}
		}
		checkNoSet(t, bad, -1, 0)
		checkNoSet(t, bad, impl.Leaves, 0)
		checkNoSet(t, bad, 0, impl.SumSize)
	})
}

// Also those wrong sums count that a comparison would not reach, as in a tree with the same root.
func TestSumsDifferInvalid(t *testing.T) {
	others := [][]int{impl.SumsOf(equalValues(0)), impl.SumsOf(mixedValues()), {}, make([]int, treeSize)}
	eachBadTree(func(good, bad []int) {
		checkNoDiffer(t, bad, bad)
		checkNoDiffer(t, bad, slices.Clone(bad))
		checkNoDiffer(t, bad, good)
		checkNoDiffer(t, good, bad)
		for _, other := range others {
			checkNoDiffer(t, bad, other)
			checkNoDiffer(t, other, bad)
		}
	})
}

// The trees that the invalid ones are made from are valid, so that these are refused for nothing else.
func TestSumsValid(t *testing.T) {
	for _, values := range leafValues() {
		sums := modelSums(values)
		if got := impl.SumsSet(sums, 0, values[0]); !slices.Equal(got, sums) {
			t.Errorf("SumsSet(%v, 0, %d) = %v", sums, values[0], got)
		}
		if leaves, compared := impl.SumsDiffer(sums, sums); len(leaves) != 0 || compared != 1 {
			t.Errorf("SumsDiffer(%v, %v) = %v, %d", sums, sums, leaves, compared)
		}
	}
}
