package tests

import (
	"slices"
	"testing"

	"loop.example/ringoverlay/impl"
)

// firstToken returns the token that is the fewest steps above the key.
func firstToken(table []impl.Token, key int) impl.Token {
	return slices.MinFunc(table, func(a, b impl.Token) int {
		return impl.CircleDistance(key, a.Position) - impl.CircleDistance(key, b.Position)
	})
}

func hasNode(table []impl.Token, node int) bool {
	return slices.ContainsFunc(table, func(t impl.Token) bool { return t.Node == node })
}

func TestPromise124(t *testing.T) {
	for node := range impl.Circle {
		for weight := 1; weight <= impl.MaxTokens; weight++ {
			got := impl.TokensOf(node, weight)
			if len(got) != weight {
				t.Errorf("TokensOf(%d, %d) = %v", node, weight, got)
			}
			for less := 1; less < weight; less++ {
				if first := impl.TokensOf(node, less); !slices.Equal(first, got[:less]) {
					t.Errorf("TokensOf(%d, %d) = %v, but with weight %d it is %v", node, weight, got, less, first)
				}
			}
		}
	}
}

// checkTokens requires that each token of the table is one of its node, and each token of a node is there, with this node or a smaller one.
func checkTokens(t *testing.T, table []impl.Token, nodes, weights []int) (shared int) {
	t.Helper()
	for _, x := range table {
		i := slices.Index(nodes, x.Node)
		if i < 0 || !slices.Contains(impl.TokensOf(x.Node, weights[i]), x.Position) {
			t.Fatalf("PlaceTable(%v, %v) = %v, where %v is not a token of its node", nodes, weights, table, x)
		}
	}
	for i, n := range nodes {
		for _, p := range impl.TokensOf(n, weights[i]) {
			k := modelAt(table, p)
			if k < 0 || table[k].Node > n {
				t.Fatalf("PlaceTable(%v, %v) = %v, where %d is not a position of node %d or a smaller one", nodes, weights, table, p, n)
			}
			if table[k].Node < n {
				shared++
			}
		}
	}
	return shared
}

func TestPromise125(t *testing.T) {
	shared := 0
	check := func(nodes, weights []int) {
		table := impl.PlaceTable(nodes, weights)
		shared += checkTokens(t, table, nodes, weights)
		for i := range table {
			if i > 0 && table[i-1].Position >= table[i].Position {
				t.Fatalf("PlaceTable(%v, %v) = %v is not ascending", nodes, weights, table)
			}
		}
	}
	eachPlaced(check)
	eachSharing(check)
	succeeded(t, shared)
}

func TestPromise126(t *testing.T) {
	eachTable(func(table []impl.Token) {
		for key := range impl.Circle {
			if got, want := impl.PlaceOwner(table, key), firstToken(table, key).Node; got != want || !hasNode(table, got) {
				t.Fatalf("PlaceOwner(%v, %d) = %d, want %d", table, key, got, want)
			}
		}
	})
}

// The nodes that are not in the table have no load. All loads together are Circle with them and without them.
func TestPromise127(t *testing.T) {
	eachTable(func(table []impl.Token) {
		sum, sumInTable := 0, 0
		for node := range impl.Circle {
			load := impl.PlaceLoad(table, node)
			sum += load
			if hasNode(table, node) {
				sumInTable += load
			}
		}
		if sum != impl.Circle || sumInTable != impl.Circle {
			t.Fatalf("the loads of %v together are %d, those of its nodes %d", table, sum, sumInTable)
		}
	})
}

// The load of a node is the number of keys whose owner it is.
func TestPromise127Owners(t *testing.T) {
	eachTable(func(table []impl.Token) {
		loads := make([]int, impl.Circle)
		for key := range impl.Circle {
			loads[impl.PlaceOwner(table, key)]++
		}
		for node, want := range loads {
			if got := impl.PlaceLoad(table, node); got != want {
				t.Fatalf("PlaceLoad(%v, %d) = %d, but it is the owner of %d keys", table, node, got, want)
			}
		}
	})
}

// removedAt returns the list without one element.
func removedAt(list []int, i int) []int {
	return slices.Delete(slices.Clone(list), i, i+1)
}

// checkRemoved requires that only the keys of the node with index i have another owner without it, and returns how many there are.
func checkRemoved(t *testing.T, nodes, weights []int, i int) (keys int) {
	t.Helper()
	before, after := impl.PlaceTable(nodes, weights), impl.PlaceTable(removedAt(nodes, i), removedAt(weights, i))
	for key := range impl.Circle {
		was, is := impl.PlaceOwner(before, key), impl.PlaceOwner(after, key)
		if is == nodes[i] || is != was && was != nodes[i] {
			t.Fatalf("without node %d of %v, whose weights are %v, the owner of key %d goes from %d to %d", nodes[i], nodes, weights, key, was, is)
		}
		if is != was {
			keys++
		}
	}
	return keys
}

func TestPromise128(t *testing.T) {
	some, none := 0, 0
	check := func(nodes, weights []int) {
		for i := range nodes {
			if len(nodes) == 1 {
				return
			}
			if checkRemoved(t, nodes, weights, i) > 0 {
				some++
			} else {
				none++
			}
		}
	}
	eachPlaced(check)
	eachSharing(check)
	succeeded(t, some)
	// Without a node all of whose positions belong to smaller ones, no owner changes.
	if none < len(hiddenNodes()) {
		t.Errorf("only %d nodes held no key", none)
	}
}

// checkIncreased requires that with a higher weight of the node with index i owners change only to this node, and returns how many do.
func checkIncreased(t *testing.T, nodes, weights []int, i, weight int) (keys int) {
	t.Helper()
	node, higher := nodes[i], replacedAt(weights, i, weight)
	before, after := impl.PlaceTable(nodes, weights), impl.PlaceTable(nodes, higher)
	for key := range impl.Circle {
		was, is := impl.PlaceOwner(before, key), impl.PlaceOwner(after, key)
		if is != was && is != node {
			t.Fatalf("if the weights %v of %v become %v, the owner of key %d goes from %d to %d", weights, nodes, higher, key, was, is)
		}
		if is != was {
			keys++
		}
	}
	if was, is := impl.PlaceLoad(before, node), impl.PlaceLoad(after, node); is != was+keys {
		t.Fatalf("if the weights %v of %v become %v, %d keys go to node %d, but its load goes from %d to %d", weights, nodes, higher, keys, node, was, is)
	}
	return keys
}

func TestPromise129(t *testing.T) {
	some, none := 0, 0
	eachPlaced(func(nodes, weights []int) {
		for i, w := range weights {
			for weight := w + 1; weight <= impl.MaxTokens; weight++ {
				if checkIncreased(t, nodes, weights, i, weight) > 0 {
					some++
				} else {
					none++
				}
			}
		}
	})
	succeeded(t, some)
	succeeded(t, none)
}

func TestPromise130(t *testing.T) {
	eachTables(func(a, b []impl.Token) {
		want := []int{}
		for key := range impl.Circle {
			if impl.PlaceOwner(a, key) != impl.PlaceOwner(b, key) {
				want = append(want, key)
			}
		}
		if got := impl.PlaceMoved(a, b); !slices.Equal(got, want) {
			t.Fatalf("PlaceMoved(%v, %v) = %v, want %v", a, b, got, want)
		}
		if got := impl.PlaceMoved(b, a); !slices.Equal(got, want) {
			t.Fatalf("PlaceMoved(%v, %v) = %v, but in the other order %v", b, a, got, want)
		}
	})
}

// With the same tokens of other nodes all keys move, and from a table to itself none.
func TestPromise130AllAndNone(t *testing.T) {
	eachTable(func(table []impl.Token) {
		if got := impl.PlaceMoved(table, slices.Clone(table)); len(got) != 0 {
			t.Fatalf("PlaceMoved of %v and itself is %v", table, got)
		}
		for _, by := range []int{1, 63} {
			if got := impl.PlaceMoved(table, otherNodes(table, by)); !slices.Equal(got, allKeys()) {
				t.Fatalf("PlaceMoved of %v and the same tokens of other nodes is %v", table, got)
			}
		}
	})
}

func TestPromise131(t *testing.T) {
	for node := range impl.Circle {
		for weight := 1; weight <= impl.MaxTokens; weight++ {
			table := impl.PlaceTable([]int{node}, []int{weight})
			if got := impl.PlaceLoad(table, node); len(table) != weight || got != impl.Circle {
				t.Errorf("PlaceLoad(%v, %d) = %d", table, node, got)
			}
		}
	}
}

// The tokens of the only node may also be at any other positions.
func TestPromise131AnyPositions(t *testing.T) {
	for _, positions := range append(slices.Clone(lookupSets()), allKeys(), allKeys()[1:]) {
		for _, node := range []int{0, 7, 63, positions[0]} {
			if got := impl.PlaceLoad(tokens(positions, node), node); got != impl.Circle {
				t.Fatalf("PlaceLoad of %d, which has tokens at %v, is %d", node, positions, got)
			}
		}
	}
}

func TestPromise132(t *testing.T) {
	eachTable(func(table []impl.Token) {
		for _, x := range table {
			if got := impl.PlaceOwner(table, x.Position); got != x.Node {
				t.Fatalf("PlaceOwner(%v, %d) = %d", table, x.Position, got)
			}
			if got := impl.PlaceLoad(table, x.Node); got < 1 {
				t.Fatalf("PlaceLoad(%v, %d) = %d", table, x.Node, got)
			}
		}
	})
}
