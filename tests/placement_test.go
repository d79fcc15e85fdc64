package tests

import (
	"math"
	"slices"
	"testing"

	"loop.example/ringoverlay/impl"
)

// fiveTokens is a table in which node 3 has neighbouring tokens and others, and nodes 0 and 63 have one each.
func fiveTokens() []impl.Token {
	return []impl.Token{token(5, 3), token(20, 63), token(30, 3), token(31, 3), token(50, 0)}
}

// goodTables are tables that are used with other arguments that are invalid.
func goodTables() [][]impl.Token {
	return [][]impl.Token{{token(20, 7)}, {token(0, 0)}, {token(63, 63)}, {token(0, 63), token(63, 0)}, fiveTokens(), tokens(allKeys(), 5), impl.PlaceTable([]int{1, 3, 15, 39, 61}, []int{3, 1, 4, 5, 2})}
}

// badTables returns lists that are not tables, by what is wrong with them.
func badTables() map[string][]impl.Token {
	all := tokens(allKeys(), 7)
	return map[string][]impl.Token{
		"nil":                nil,
		"empty":              {},
		"repeated":           {token(20, 7), token(20, 7)},
		"repeated, others":   {token(20, 7), token(20, 8)},
		"repeated later":     {token(20, 7), token(50, 7), token(20, 7)},
		"first repeated":     {token(0, 7), token(0, 8), token(50, 9)},
		"last repeated":      {token(20, 7), token(50, 8), token(50, 9)},
		"descending":         {token(50, 7), token(20, 8)},
		"one below":          {token(21, 7), token(20, 8)},
		"first descends":     {token(21, 7), token(20, 8), token(50, 9)},
		"last descends":      {token(20, 7), token(50, 8), token(49, 9)},
		"rotated":            {token(60, 1), token(2, 2), token(5, 3)},
		"-1 first":           {token(-1, 7), token(0, 8)},
		"Circle last":        {token(0, 7), token(impl.Circle, 8)},
		"node -1":            {token(20, -1)},
		"node Circle":        {token(20, impl.Circle)},
		"zero twice":         make([]impl.Token, 2),
		"all and one more":   append(slices.Clone(all), token(63, 7)),
		"all, too high":      append(slices.Clone(all), token(64, 7)),
		"all, first is -1":   append([]impl.Token{token(-1, 7)}, all...),
		"much too long":      make([]impl.Token, 1000),
		"extreme":            {token(math.MinInt, math.MinInt), token(math.MaxInt, math.MaxInt)},
		"extreme, ascending": {token(math.MinInt, 7), token(math.MaxInt, 8)},
	}
}

// eachBadTable calls check with these lists and with tables in which one number of one token is out of range.
func eachBadTable(check func(name string, table []impl.Token)) {
	for name, table := range badTables() {
		check(name, table)
	}
	for _, good := range goodTables() {
		for i, t := range good {
			for _, bad := range notPositions {
				check("Position", slices.Replace(slices.Clone(good), i, i+1, token(bad, t.Node)))
				check("Node", slices.Replace(slices.Clone(good), i, i+1, token(t.Position, bad)))
			}
		}
	}
}

func TestTokensOfCases(t *testing.T) {
	for _, x := range []struct {
		node int
		want []int
	}{
		{0, []int{0, 30, 10, 4, 12}}, {1, []int{37, 3, 47, 41, 49}}, {2, []int{10, 40, 20, 14, 22}}, {3, []int{47, 13, 57, 51, 59}},
		{15, []int{43, 9, 53, 47, 55}}, {32, []int{32, 62, 42, 36, 44}}, {62, []int{54, 20, 0, 58, 2}}, {63, []int{27, 57, 37, 31, 39}},
	} {
		for weight := 1; weight <= impl.MaxTokens; weight++ {
			if got := impl.TokensOf(x.node, weight); !slices.Equal(got, x.want[:weight]) {
				t.Errorf("TokensOf(%d, %d) = %v, want %v", x.node, weight, got, x.want[:weight])
			}
		}
	}
}

// All tokens are compared with those of a model, and no two tokens of a node are at one position.
func TestTokensOfAll(t *testing.T) {
	for node := range impl.Circle {
		for weight := 1; weight <= impl.MaxTokens; weight++ {
			got := impl.TokensOf(node, weight)
			if want := modelTokens(node, weight); !slices.Equal(got, want) {
				t.Errorf("TokensOf(%d, %d) = %v, want %v", node, weight, got, want)
			}
			slices.Sort(got)
			if len(slices.Compact(got)) != weight {
				t.Errorf("TokensOf(%d, %d) has one position twice: %v", node, weight, got)
			}
		}
	}
}

func TestTokensOfInvalid(t *testing.T) {
	check := func(node, weight int) {
		if got := impl.TokensOf(node, weight); len(got) != 0 {
			t.Fatalf("TokensOf(%d, %d) = %v, want none", node, weight, got)
		}
	}
	for _, weight := range slices.Concat([]int{1, 2, 3, 4, 5}, notWeights) {
		for _, node := range notPositions {
			check(node, weight)
		}
	}
	for node := range impl.Circle {
		for _, weight := range notWeights {
			check(node, weight)
		}
	}
}

func TestPlaceTableCases(t *testing.T) {
	for _, x := range []struct {
		name           string
		nodes, weights []int
		want           []impl.Token
	}{
		{"one node, one token", []int{3}, []int{1}, []impl.Token{token(47, 3)}},
		{"one node, two tokens", []int{3}, []int{2}, []impl.Token{token(13, 3), token(47, 3)}},
		{"one node, all tokens", []int{3}, []int{5}, []impl.Token{token(13, 3), token(47, 3), token(51, 3), token(57, 3), token(59, 3)}},
		{"node 0", []int{0}, []int{5}, []impl.Token{token(0, 0), token(4, 0), token(10, 0), token(12, 0), token(30, 0)}},
		{"node 63", []int{63}, []int{3}, []impl.Token{token(27, 63), token(37, 63), token(57, 63)}},
		{"nothing shared", []int{0, 3}, []int{2, 2}, []impl.Token{token(0, 0), token(13, 3), token(30, 0), token(47, 3)}},
		{"one position shared", []int{1, 3}, []int{3, 1}, []impl.Token{token(3, 1), token(37, 1), token(47, 1)}},
		{"one weight less, nothing shared", []int{1, 3}, []int{2, 1}, []impl.Token{token(3, 1), token(37, 1), token(47, 3)}},
		{"one more of the larger node", []int{1, 3}, []int{3, 2}, []impl.Token{token(3, 1), token(13, 3), token(37, 1), token(47, 1)}},
		{"the smaller node has the smaller weight", []int{3, 15}, []int{1, 4}, []impl.Token{token(9, 15), token(43, 15), token(47, 3), token(53, 15)}},
		{"the smaller node has the smaller weight, one more", []int{3, 15}, []int{1, 5}, []impl.Token{token(9, 15), token(43, 15), token(47, 3), token(53, 15), token(55, 15)}},
		{"five nodes at one position", []int{1, 3, 15, 39, 61}, []int{3, 1, 4, 5, 2}, []impl.Token{
			token(1, 39), token(3, 1), token(9, 15), token(17, 61), token(35, 39), token(37, 1), token(39, 39), token(43, 15), token(45, 39), token(47, 1), token(53, 15)}},
		{"the smallest one has no token there", []int{1, 3, 15, 39, 61}, []int{2, 1, 4, 5, 2}, []impl.Token{
			token(1, 39), token(3, 1), token(9, 15), token(17, 61), token(35, 39), token(37, 1), token(39, 39), token(43, 15), token(45, 39), token(47, 3), token(53, 15)}},
		{"only the largest one is left there", []int{1, 15, 39, 61}, []int{2, 3, 4, 2}, []impl.Token{
			token(1, 39), token(3, 1), token(9, 15), token(17, 61), token(35, 39), token(37, 1), token(39, 39), token(43, 15), token(45, 39), token(47, 61), token(53, 15)}},
		{"no token is left for the last one", []int{1, 5, 27, 51, 57, 63}, []int{1, 1, 1, 1, 2, 5}, []impl.Token{
			token(27, 57), token(31, 51), token(37, 1), token(39, 27), token(57, 5), token(61, 57)}},
		{"no token is left for one in between", []int{1, 3, 62}, []int{3, 1, 2}, []impl.Token{
			token(3, 1), token(20, 62), token(37, 1), token(47, 1), token(54, 62)}},
		{"MaxNodes nodes", []int{0, 1, 2, 3, 4, 5, 6, 7, 8, 9}, []int{1, 1, 1, 1, 1, 1, 1, 1, 1, 1}, []impl.Token{
			token(0, 0), token(3, 7), token(10, 2), token(13, 9), token(20, 4), token(30, 6), token(37, 1), token(40, 8), token(47, 3), token(57, 5)}},
	} {
		if got := impl.PlaceTable(x.nodes, x.weights); !slices.Equal(got, x.want) {
			t.Errorf("%s: PlaceTable(%v, %v) = %v, want %v", x.name, x.nodes, x.weights, got, x.want)
		}
	}
}

func TestPlaceTableModelled(t *testing.T) {
	count := 0
	check := func(nodes, weights []int) {
		count++
		if got, want := impl.PlaceTable(nodes, weights), modelTable(nodes, weights); !slices.Equal(got, want) {
			t.Fatalf("PlaceTable(%v, %v) = %v, want %v", nodes, weights, got, want)
		}
	}
	eachPlaced(check)
	eachSharing(check)
	succeeded(t, count)
}

// A map is visited in another order each time, which no table shows.
func TestPlaceTableOrder(t *testing.T) {
	for _, nodes := range [][]int{{0, 1, 2, 3, 4, 5, 6, 7, 8, 9}, {0, 7, 14, 21, 28, 35, 42, 49, 56, 63}, sharingNodes(), {3, 15}} {
		weights := slices.Repeat([]int{5}, len(nodes))
		want := modelTable(nodes, weights)
		for range 300 {
			if got := impl.PlaceTable(nodes, weights); !slices.Equal(got, want) {
				t.Fatalf("PlaceTable(%v, %v) = %v, want %v", nodes, weights, got, want)
			}
		}
	}
}

func checkNoTable(t *testing.T, name string, nodes, weights []int) {
	t.Helper()
	if got := impl.PlaceTable(nodes, weights); len(got) != 0 {
		t.Fatalf("%s: PlaceTable(%v, %v) = %v, want none", name, nodes, weights, got)
	}
}

func TestPlaceTableBadSets(t *testing.T) {
	for name, nodes := range badSets() {
		for w := range impl.MaxTokens + 2 {
			checkNoTable(t, name, nodes, slices.Repeat([]int{w}, len(nodes)))
		}
		checkNoTable(t, name, nodes, nil)
		checkNoTable(t, name, nodes, []int{1})
		checkNoTable(t, name, nodes, slices.Repeat([]int{1}, impl.MaxNodes))
	}
	for _, nodes := range goodSets() {
		for i := range nodes {
			for _, bad := range notPositions {
				checkNoTable(t, "not a node", replacedAt(nodes, i, bad), slices.Repeat([]int{2}, len(nodes)))
			}
		}
	}
}

func TestPlaceTableBadWeights(t *testing.T) {
	for _, nodes := range goodSets() {
		for _, weights := range weightsOf(len(nodes)) {
			checkNoTable(t, "no weight", nodes, nil)
			checkNoTable(t, "one less", nodes, weights[1:])
			checkNoTable(t, "one less", nodes, weights[:len(weights)-1])
			checkNoTable(t, "one more", nodes, append(slices.Clone(weights), 1))
			checkNoTable(t, "two more", nodes, append(slices.Clone(weights), 5, 5))
			checkNoTable(t, "twice as many", nodes, slices.Repeat(weights, 2))
			for i := range weights {
				for _, bad := range notWeights {
					checkNoTable(t, "not a weight", nodes, replacedAt(weights, i, bad))
				}
			}
			checkNoTable(t, "one more, out of range", nodes, append(slices.Clone(weights), 0))
		}
	}
}

func TestPlaceOwnerCases(t *testing.T) {
	for _, x := range []struct {
		table []impl.Token
		// owners has a node for each key.
		owners map[int]int
	}{
		{[]impl.Token{token(20, 7)}, map[int]int{0: 7, 19: 7, 20: 7, 21: 7, 63: 7}},
		{[]impl.Token{token(0, 0)}, map[int]int{0: 0, 1: 0, 30: 0, 63: 0}},
		{[]impl.Token{token(63, 63)}, map[int]int{0: 63, 1: 63, 30: 63, 62: 63, 63: 63}},
		{[]impl.Token{token(10, 1), token(20, 2)}, map[int]int{0: 1, 9: 1, 10: 1, 11: 2, 19: 2, 20: 2, 21: 1, 63: 1}},
		{[]impl.Token{token(10, 2), token(20, 1)}, map[int]int{0: 2, 9: 2, 10: 2, 11: 1, 19: 1, 20: 1, 21: 2, 63: 2}},
		{[]impl.Token{token(0, 63), token(63, 0)}, map[int]int{0: 63, 1: 0, 62: 0, 63: 0}},
		{[]impl.Token{token(0, 5), token(1, 4)}, map[int]int{0: 5, 1: 4, 2: 5, 63: 5}},
		{[]impl.Token{token(62, 5), token(63, 4)}, map[int]int{0: 5, 1: 5, 61: 5, 62: 5, 63: 4}},
		{fiveTokens(), map[int]int{0: 3, 4: 3, 5: 3, 6: 63, 19: 63, 20: 63, 21: 3, 29: 3, 30: 3, 31: 3, 32: 0, 49: 0, 50: 0, 51: 3, 63: 3}},
		{impl.PlaceTable([]int{3}, []int{2}), map[int]int{0: 3, 13: 3, 47: 3, 50: 3, 63: 3}},
		{impl.PlaceTable([]int{1, 3}, []int{3, 2}), map[int]int{3: 1, 4: 3, 12: 3, 13: 3, 14: 1, 37: 1, 38: 1, 47: 1, 48: 1, 0: 1}},
		{impl.PlaceTable([]int{1, 3}, []int{2, 2}), map[int]int{3: 1, 4: 3, 12: 3, 13: 3, 14: 1, 37: 1, 38: 3, 47: 3, 48: 1, 0: 1}},
		{tokens(allKeys(), allKeys()...), map[int]int{0: 0, 1: 1, 31: 31, 62: 62, 63: 63}},
	} {
		for key, want := range x.owners {
			if got := impl.PlaceOwner(x.table, key); got != want {
				t.Errorf("PlaceOwner(%v, %d) = %d, want %d", x.table, key, got, want)
			}
		}
	}
}

func TestPlaceLoadCases(t *testing.T) {
	for _, x := range []struct {
		table []impl.Token
		// loads has the number of keys of each node.
		loads map[int]int
	}{
		{[]impl.Token{token(20, 7)}, map[int]int{7: 64, 0: 0, 6: 0, 8: 0, 20: 0, 63: 0}},
		{[]impl.Token{token(0, 0)}, map[int]int{0: 64, 1: 0, 63: 0}},
		{[]impl.Token{token(63, 63)}, map[int]int{63: 64, 0: 0, 62: 0}},
		{[]impl.Token{token(10, 1), token(20, 2)}, map[int]int{1: 54, 2: 10, 0: 0, 10: 0, 20: 0}},
		{[]impl.Token{token(10, 1), token(11, 2)}, map[int]int{1: 63, 2: 1, 3: 0}},
		{[]impl.Token{token(10, 1), token(11, 1), token(12, 2)}, map[int]int{1: 63, 2: 1}},
		{[]impl.Token{token(10, 1), token(11, 2), token(12, 2)}, map[int]int{1: 62, 2: 2}},
		{[]impl.Token{token(10, 1), token(11, 1)}, map[int]int{1: 64, 2: 0}},
		{[]impl.Token{token(0, 63), token(63, 0)}, map[int]int{63: 1, 0: 63, 1: 0}},
		{[]impl.Token{token(0, 5), token(1, 4)}, map[int]int{5: 63, 4: 1}},
		{[]impl.Token{token(62, 5), token(63, 4)}, map[int]int{5: 63, 4: 1}},
		{fiveTokens(), map[int]int{3: 30, 63: 15, 0: 19, 5: 0}},
		{impl.PlaceTable([]int{3}, []int{2}), map[int]int{3: 64, 13: 0, 47: 0}},
		{impl.PlaceTable([]int{1, 3}, []int{3, 2}), map[int]int{1: 54, 3: 10}},
		{impl.PlaceTable([]int{1, 3}, []int{2, 2}), map[int]int{1: 44, 3: 20}},
		{impl.PlaceTable([]int{1, 3}, []int{3, 1}), map[int]int{1: 64, 3: 0}},
		{impl.PlaceTable([]int{1, 5, 27, 51, 57, 63}, []int{1, 1, 1, 1, 2, 5}), map[int]int{1: 6, 5: 18, 27: 2, 51: 4, 57: 34, 63: 0}},
		{tokens(allKeys(), allKeys()...), map[int]int{0: 1, 1: 1, 31: 1, 63: 1}},
		{tokens(allKeys(), 0, 63), map[int]int{0: 32, 63: 32, 1: 0}},
	} {
		for node, want := range x.loads {
			if got := impl.PlaceLoad(x.table, node); got != want {
				t.Errorf("PlaceLoad(%v, %d) = %d, want %d", x.table, node, got, want)
			}
		}
	}
}

func TestPlaceMovedCases(t *testing.T) {
	for _, x := range []struct {
		name string
		a, b []impl.Token
		want []int
	}{
		{"the same table", fiveTokens(), fiveTokens(), nil},
		{"one node, other tokens", []impl.Token{token(20, 7)}, []impl.Token{token(50, 7), token(60, 7)}, nil},
		{"another node", []impl.Token{token(20, 7)}, []impl.Token{token(20, 8)}, allKeys()},
		{"another node with other tokens", []impl.Token{token(20, 7)}, []impl.Token{token(50, 8), token(60, 8)}, allKeys()},
		{"one more node", []impl.Token{token(20, 7)}, []impl.Token{token(15, 8), token(20, 7)}, append(allKeys()[:16], allKeys()[21:]...)},
		{"one more node after the last token", []impl.Token{token(60, 7)}, []impl.Token{token(60, 7), token(63, 8)}, []int{61, 62, 63}},
		{"one more node before the first token", []impl.Token{token(2, 7)}, []impl.Token{token(0, 8), token(2, 7)}, append([]int{0}, allKeys()[3:]...)},
		{"one more node at the next position", []impl.Token{token(20, 7), token(40, 9)}, []impl.Token{token(20, 7), token(21, 8), token(40, 9)}, []int{21}},
		{"one more token of the next node", []impl.Token{token(20, 7), token(40, 9)}, []impl.Token{token(20, 7), token(25, 9), token(40, 9)}, nil},
		{"one more token of another node", []impl.Token{token(20, 7), token(40, 9)}, []impl.Token{token(20, 7), token(25, 7), token(40, 9)}, []int{21, 22, 23, 24, 25}},
		{"a token one higher", []impl.Token{token(20, 7), token(40, 9)}, []impl.Token{token(21, 7), token(40, 9)}, []int{21}},
		{"a token at 0 and not at 63", []impl.Token{token(0, 7), token(40, 9)}, []impl.Token{token(40, 9), token(63, 7)}, []int{0}},
		{"exchanged", []impl.Token{token(10, 1), token(20, 2)}, []impl.Token{token(10, 2), token(20, 1)}, allKeys()},
		{"all but one", tokens(allKeys(), 5), tokens(allKeys(), slices.Insert(slices.Repeat([]int{7}, 63), 30, 5)...), append(allKeys()[:30], allKeys()[31:]...)},
		{"a higher weight", impl.PlaceTable([]int{1, 3}, []int{2, 2}), impl.PlaceTable([]int{1, 3}, []int{3, 2}), []int{38, 39, 40, 41, 42, 43, 44, 45, 46, 47}},
		{"a higher weight without a new token", impl.PlaceTable([]int{1, 3, 5}, []int{3, 1, 1}), impl.PlaceTable([]int{1, 5}, []int{3, 1}), nil},
	} {
		for _, pair := range [][2][]impl.Token{{x.a, x.b}, {x.b, x.a}} {
			if got := impl.PlaceMoved(pair[0], pair[1]); !slices.Equal(got, x.want) {
				t.Errorf("%s: PlaceMoved(%v, %v) = %v, want %v", x.name, pair[0], pair[1], got, x.want)
			}
		}
	}
}

// The answers are compared with those of a model that walks along the circle.
func TestPlacesModelled(t *testing.T) {
	eachTable(func(table []impl.Token) {
		for key := range impl.Circle {
			if got, want := impl.PlaceOwner(table, key), modelOwner(table, key); got != want {
				t.Fatalf("PlaceOwner(%v, %d) = %d, want %d", table, key, got, want)
			}
		}
		for node := range impl.Circle {
			if got, want := impl.PlaceLoad(table, node), modelLoad(table, node); got != want {
				t.Fatalf("PlaceLoad(%v, %d) = %d, want %d", table, node, got, want)
			}
		}
	})
	eachTables(func(a, b []impl.Token) {
		if got, want := impl.PlaceMoved(a, b), modelMoved(a, b); !slices.Equal(got, want) {
			t.Fatalf("PlaceMoved(%v, %v) = %v, want %v", a, b, got, want)
		}
	})
}

// checkNoPlace requires that the functions that ask a table refuse the arguments.
func checkNoPlace(t *testing.T, name string, table []impl.Token, key int) {
	t.Helper()
	if got := impl.PlaceOwner(table, key); got != -1 {
		t.Errorf("%s: PlaceOwner(%v, %d) = %d, want -1", name, table, key, got)
	}
	if got := impl.PlaceLoad(table, key); got != -1 {
		t.Errorf("%s: PlaceLoad(%v, %d) = %d, want -1", name, table, key, got)
	}
}

func checkNotMoved(t *testing.T, name string, a, b []impl.Token) {
	t.Helper()
	if got := impl.PlaceMoved(a, b); len(got) != 0 {
		t.Errorf("%s: PlaceMoved(%v, %v) = %v, want none", name, a, b, got)
	}
}

func TestPlaceBadTables(t *testing.T) {
	eachBadTable(func(name string, table []impl.Token) {
		for _, key := range []int{0, 5, 7, 20, 21, 50, 63, -1, impl.Circle} {
			checkNoPlace(t, name, table, key)
		}
		for _, good := range goodTables() {
			checkNotMoved(t, name, table, good)
			checkNotMoved(t, name, good, table)
		}
		checkNotMoved(t, name, table, table)
		checkNotMoved(t, name, table, nil)
		checkNotMoved(t, name, nil, table)
	})
}

func TestPlaceNotPositions(t *testing.T) {
	for _, table := range slices.Concat(goodTables(), someTables()) {
		for _, bad := range notPositions {
			checkNoPlace(t, "not a position", table, bad)
		}
	}
}
