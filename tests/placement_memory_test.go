package tests

import (
	"slices"
	"testing"

	"loop.example/ringoverlay/impl"
)

// checkFresh requires that two results of a call are equal, and share no memory with each other, also if they are empty.
func checkFresh[E comparable](t *testing.T, name string, a, b E, do func() []E) {
	t.Helper()
	first, second := do(), do()
	want := slices.Clone(second)
	if !slices.Equal(first, want) {
		t.Fatalf("%s is %v, and then %v", name, first, want)
	}
	overwrite(first, a)
	if !slices.Equal(second, want) {
		t.Fatalf("%s: two results share memory", name)
	}
	first, second = append(do(), a), append(do(), b)
	if first[len(first)-1] != a || second[len(second)-1] != b {
		t.Fatalf("%s: two results share the memory behind them", name)
	}
}

// memoryTables has tables of all sizes, and lists that are not tables.
func memoryTables() [][]impl.Token {
	return append(goodTables(), nil, []impl.Token{}, []impl.Token{token(20, 7), token(20, 7)}, []impl.Token{token(50, 7), token(20, 7)}, []impl.Token{token(-1, 7)}, []impl.Token{token(20, impl.Circle)})
}

// memoryPlaces has sets that share positions and others, and lists that are not sets or have no weights.
func memoryPlaces() []placed {
	return []placed{
		{[]int{3}, []int{1}}, {[]int{0, 63}, []int{5, 5}}, {sharingNodes(), []int{3, 1, 4, 5, 2}}, {[]int{1, 5, 27, 51, 57, 63}, []int{1, 1, 1, 1, 2, 5}}, {[]int{0, 1, 2, 3, 4, 5, 6, 7, 8, 9}, slices.Repeat([]int{5}, 10)},
		{nil, nil}, {[]int{20, 5}, []int{5, 1}}, {[]int{5, 5}, []int{2, 1}}, {[]int{5, 20}, []int{1}}, {[]int{5, 20}, []int{5, 4, 3}}, {[]int{5, 20}, []int{6, 0}}, {[]int{5, impl.Circle}, []int{2, 1}},
	}
}

func TestPlacementFresh(t *testing.T) {
	for _, node := range []int{0, 1, 3, 63, -1, impl.Circle} {
		for weight := range impl.MaxTokens + 2 {
			checkFresh(t, "TokensOf", -98, -99, func() []int { return impl.TokensOf(node, weight) })
		}
	}
	for _, x := range memoryPlaces() {
		checkFresh(t, "PlaceTable", token(-98, -98), token(-99, -99), func() []impl.Token { return impl.PlaceTable(x.nodes, x.weights) })
	}
	for _, a := range memoryTables() {
		for _, b := range memoryTables() {
			checkFresh(t, "PlaceMoved", -98, -99, func() []int { return impl.PlaceMoved(a, b) })
		}
	}
}

// The tokens of a smaller weight are the first ones of a higher one, in memory of their own.
func TestTokensOfMemory(t *testing.T) {
	for weight := 1; weight <= impl.MaxTokens; weight++ {
		for other := 1; other <= impl.MaxTokens; other++ {
			got, kept := impl.TokensOf(3, weight), impl.TokensOf(3, other)
			overwrite(got, -99)
			if want := modelTokens(3, other); !slices.Equal(kept, want) || !slices.Equal(impl.TokensOf(3, other), want) {
				t.Fatalf("TokensOf(3, %d) and TokensOf(3, %d) share memory", weight, other)
			}
		}
	}
}

func TestPlacementUnmodified(t *testing.T) {
	for _, x := range memoryPlaces() {
		checkUnmodified(t, "PlaceTable, nodes", x.nodes, -99, func(nodes []int) { impl.PlaceTable(nodes, x.weights) })
		checkUnmodified(t, "PlaceTable, weights", x.weights, -99, func(weights []int) { impl.PlaceTable(x.nodes, weights) })
	}
	spare := token(-99, -99)
	for _, table := range memoryTables() {
		for _, key := range []int{-1, 0, 3, 7, 20, 21, 47, 63, impl.Circle} {
			checkUnmodified(t, "PlaceOwner", table, spare, func(table []impl.Token) { impl.PlaceOwner(table, key) })
			checkUnmodified(t, "PlaceLoad", table, spare, func(table []impl.Token) { impl.PlaceLoad(table, key) })
		}
		for _, other := range memoryTables() {
			checkUnmodified(t, "PlaceMoved, first", table, spare, func(table []impl.Token) { impl.PlaceMoved(table, other) })
			checkUnmodified(t, "PlaceMoved, second", table, spare, func(table []impl.Token) { impl.PlaceMoved(other, table) })
		}
	}
}
