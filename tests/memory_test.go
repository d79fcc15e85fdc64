package tests

import (
	"slices"
	"testing"
)

// overwrite fills a list up to its capacity, which would show in any list that shares memory with it.
func overwrite[E any](list []E, with E) {
	list = list[:cap(list)]
	for i := range list {
		list[i] = with
	}
}

// spacious returns the list with free capacity behind it, and the whole of its memory.
func spacious[E any](list []E, spare E) (short, whole []E) {
	whole = append(slices.Clone(list), spare, spare, spare)
	return whole[:len(list)], whole
}

// checkMemory requires that results share no memory with the argument or with each other. The spare element is in none of the lists.
func checkMemory[E comparable](t *testing.T, name string, original []E, spare E, do func([]E) []E) {
	t.Helper()
	list, whole := spacious(original, spare)
	before := slices.Clone(whole)
	got, again := do(list), do(list)
	want := slices.Clone(again)
	if !slices.Equal(got, want) {
		t.Fatalf("%s of %v is %v, and then %v", name, original, got, want)
	}
	overwrite(got, spare)
	if !slices.Equal(whole, before) || !slices.Equal(again, want) {
		t.Fatalf("%s of %v: the result shares memory with the argument or another result", name, original)
	}
	overwrite(whole, spare)
	if !slices.Equal(again, want) {
		t.Fatalf("%s of %v: the result shares memory with the argument", name, original)
	}
}

// checkEmptyMemory requires that the empty results of a call share no memory.
func checkEmptyMemory[E comparable](t *testing.T, name string, list []E, a, b E, do func([]E) []E) {
	t.Helper()
	first := append(do(list), a)
	second := append(do(list), b)
	if len(first) != 1 || len(second) != 1 || first[0] != a || second[0] != b {
		t.Errorf("%s of %v: two empty results share memory or are not empty: %v, %v", name, list, first, second)
	}
}

// checkUnmodified requires that a call does not change its argument, nor the free capacity behind it.
func checkUnmodified[E comparable](t *testing.T, name string, original []E, spare E, do func([]E)) {
	t.Helper()
	list, whole := spacious(original, spare)
	want := slices.Clone(whole)
	do(list)
	if !slices.Equal(whole, want) {
		t.Fatalf("%s changed %v to %v", name, want, whole)
	}
}
