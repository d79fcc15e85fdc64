package tests

import (
	"slices"
	"testing"

	"loop.example/ringoverlay/impl"
)

// treeOf returns the tree of values, which must have all nodes.
func treeOf(t *testing.T, values []int) []int {
	t.Helper()
	sums := impl.SumsOf(values)
	if len(sums) != treeSize {
		t.Fatalf("SumsOf(%v) = %v", values, sums)
	}
	return sums
}

// treeWith returns the tree with another value of a leaf.
func treeWith(t *testing.T, sums []int, leaf, value int) []int {
	t.Helper()
	got := impl.SumsSet(sums, leaf, value)
	if len(got) != treeSize {
		t.Fatalf("SumsSet(%v, %d, %d) = %v", sums, leaf, value, got)
	}
	return got
}

func TestPromise93(t *testing.T) {
	for _, values := range leafValues() {
		sums := treeOf(t, values)
		for leaf, own := range values {
			for value := range impl.SumSize {
				set, of := treeWith(t, sums, leaf, value), treeOf(t, replacedAt(values, leaf, value))
				if (set[0] == sums[0]) != (value == own) || (of[0] == sums[0]) != (value == own) {
					t.Fatalf("leaf %d of %v is set to %d, and the root changes from %d to %d by SumsSet and to %d by SumsOf", leaf, values, value, sums[0], set[0], of[0])
				}
			}
		}
	}
}

func TestPromise94(t *testing.T) {
	eachSet(func(values []int, leaf, value int) {
		got, want := treeWith(t, treeOf(t, values), leaf, value), treeOf(t, replacedAt(values, leaf, value))
		if !slices.Equal(got, want) {
			t.Fatalf("SumsSet of leaf %d of %v to %d returns %v, and SumsOf %v", leaf, values, value, got, want)
		}
	})
}

func TestPromise95(t *testing.T) {
	eachSet(func(values []int, leaf, value int) {
		sums := treeOf(t, values)
		got := treeWith(t, sums, leaf, value)
		if changed := differingLeaves(sums, got); len(changed) > 5 {
			t.Fatalf("SumsSet of leaf %d of %v to %d changes the sums of %v", leaf, values, value, changed)
		}
		for node := range sums {
			// With another value of the leaf, all sums on the way up change.
			onWay := slices.Contains(wayUp(leaf), node) && value != values[leaf]
			if (sums[node] != got[node]) != onWay {
				t.Fatalf("SumsSet of leaf %d of %v to %d changes %v to %v", leaf, values, value, sums, got)
			}
		}
	})
}

func TestPromise96(t *testing.T) {
	for _, values := range leafValues() {
		sums := treeOf(t, values)
		for k, own := range values {
			for l, other := range values {
				if k == l {
					continue
				}
				for _, x := range newValues(own) {
					for _, y := range []int{0, impl.SumSize - 1, other, (other + 1) % impl.SumSize} {
						one := treeWith(t, treeWith(t, sums, k, x), l, y)
						two := treeWith(t, treeWith(t, sums, l, y), k, x)
						if !slices.Equal(one, two) {
							t.Fatalf("leaf %d of %v is set to %d and leaf %d to %d: the tree is %v, and in the other order %v", k, values, x, l, y, one, two)
						}
					}
				}
			}
		}
	}
}

func TestPromise97(t *testing.T) {
	equal := 0
	eachTrees(t, func(a, b []int) {
		leaves, compared := impl.SumsDiffer(a, b)
		for i, k := range leaves {
			if k < 0 || k >= impl.Leaves || a[treeSize-impl.Leaves+k] == b[treeSize-impl.Leaves+k] || i > 0 && leaves[i-1] >= k {
				t.Fatalf("SumsDiffer(%v, %v) = %v, %d", a, b, leaves, compared)
			}
		}
		if a[0] == b[0] {
			equal++
			if len(leaves) != 0 || compared != 1 {
				t.Fatalf("the roots of %v and %v are equal, but SumsDiffer returns %v, %d", a, b, leaves, compared)
			}
		}
	})
	if equal < 300 {
		t.Errorf("only %d trees had equal roots", equal)
	}
}

func TestPromise98(t *testing.T) {
	count := 0
	eachSet(func(values []int, leaf, value int) {
		if value == values[leaf] {
			return
		}
		count++
		a := treeOf(t, values)
		b := treeWith(t, a, leaf, value)
		if leaves, compared := impl.SumsDiffer(a, b); !slices.Equal(leaves, []int{leaf}) || compared != 9 {
			t.Fatalf("only leaf %d differs in %v and %v, but SumsDiffer returns %v, %d", leaf, a, b, leaves, compared)
		}
	})
	succeeded(t, count)
}

func TestPromise99(t *testing.T) {
	eachTrees(t, func(a, b []int) {
		leaves, compared := impl.SumsDiffer(a, b)
		if others, n := impl.SumsDiffer(b, a); !slices.Equal(leaves, others) || compared != n {
			t.Fatalf("SumsDiffer(%v, %v) = %v, %d, and in the other order %v, %d", a, b, leaves, compared, others, n)
		}
	})
	for _, values := range leafValues() {
		sums := treeOf(t, values)
		if leaves, compared := impl.SumsDiffer(sums, sums); len(leaves) != 0 || compared != 1 {
			t.Fatalf("SumsDiffer of %v and itself is %v, %d", sums, leaves, compared)
		}
	}
}

func TestPromise100(t *testing.T) {
	most := 0
	eachTrees(t, func(a, b []int) {
		differ := len(differingLeaves(a[treeSize-impl.Leaves:], b[treeSize-impl.Leaves:]))
		leaves, compared := impl.SumsDiffer(a, b)
		if compared < 1 || compared > 1+8*differ || compared > 31 {
			t.Fatalf("%d leaves differ, and SumsDiffer(%v, %v) = %v, %d", differ, a, b, leaves, compared)
		}
		most = max(most, compared)
	})
	if most != 31 {
		t.Errorf("at most %d nodes were compared", most)
	}
}

func TestPromise101(t *testing.T) {
	for _, values := range leafValues() {
		sums := treeOf(t, values)
		if last := sums[treeSize-impl.Leaves:]; !slices.Equal(last, values) {
			t.Fatalf("SumsOf(%v) = %v, the last sums are %v", values, sums, last)
		}
		for leaf, own := range values {
			if got := treeWith(t, sums, leaf, own); !slices.Equal(got, sums) {
				t.Fatalf("SumsSet of leaf %d of %v to its own value changes %v to %v", leaf, values, sums, got)
			}
		}
	}
}
