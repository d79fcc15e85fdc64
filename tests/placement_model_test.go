package tests

import (
	"math"
	"slices"
	"sync"

	"loop.example/ringoverlay/impl"
)

// notWeights are numbers that are not weights, the nearest and the farthest ones among them.
var notWeights = []int{0, -1, impl.MaxTokens + 1, impl.MaxTokens + 2, -impl.MaxTokens, impl.Circle, math.MinInt, math.MinInt + 1, math.MaxInt - 1, math.MaxInt}

func token(position, node int) impl.Token {
	return impl.Token{Position: position, Node: node}
}

// tokens gives each position a node; the nodes start again when they are used up.
func tokens(positions []int, nodes ...int) []impl.Token {
	table := []impl.Token{}
	for i, p := range positions {
		table = append(table, token(p, nodes[i%len(nodes)]))
	}
	return table
}

func walkUp(p, steps int) int {
	for range steps {
		p = up(p)
	}
	return p
}

// modelTokens walks 37 steps for each node below this one, and then from token to token: 30 steps to the second one, and 14 more each time.
func modelTokens(node, weight int) []int {
	list := []int{walkUp(0, 37*node)}
	for steps := 30; len(list) < weight; steps += 14 {
		list = append(list, walkUp(list[len(list)-1], steps))
	}
	return list
}

// modelTable goes along the circle, and asks the nodes for a token at each position. They are ascending, so that the smallest one answers first.
func modelTable(nodes, weights []int) []impl.Token {
	lists := [][]int{}
	for i, n := range nodes {
		lists = append(lists, modelTokens(n, weights[i]))
	}
	table := []impl.Token{}
	for p := range 64 {
		if i := slices.IndexFunc(lists, func(list []int) bool { return slices.Contains(list, p) }); i >= 0 {
			table = append(table, token(p, nodes[i]))
		}
	}
	return table
}

// modelAt returns the index of the token at a position, or -1.
func modelAt(table []impl.Token, p int) int {
	return slices.IndexFunc(table, func(t impl.Token) bool { return t.Position == p })
}

func modelOwner(table []impl.Token, key int) int {
	p := key
	for modelAt(table, p) < 0 {
		p = up(p)
	}
	return table[modelAt(table, p)].Node
}

// modelLoad walks down from each token of the node to the next token, which may be the same one after a whole turn.
func modelLoad(table []impl.Token, node int) int {
	keys := 0
	for _, t := range table {
		if t.Node != node {
			continue
		}
		keys++
		for p := down(t.Position); modelAt(table, p) < 0; p = down(p) {
			keys++
		}
	}
	return keys
}

func modelMoved(a, b []impl.Token) []int {
	keys := []int{}
	for key := range 64 {
		if modelOwner(a, key) != modelOwner(b, key) {
			keys = append(keys, key)
		}
	}
	return keys
}

// weightsOf returns weights of some nodes: the same for all, ascending and descending ones, the ends of the range in turn, and mixed ones.
func weightsOf(count int) [][]int {
	lists := [][]int{}
	add := func(weight func(i int) int) {
		list := []int{}
		for i := range count {
			list = append(list, weight(i))
		}
		lists = append(lists, list)
	}
	for w := 1; w <= impl.MaxTokens; w++ {
		add(func(int) int { return w })
		random := spread(w)
		add(func(int) int { return 1 + random.below(impl.MaxTokens) })
	}
	add(func(i int) int { return 1 + i%5 })
	add(func(i int) int { return 5 - i%5 })
	add(func(i int) int { return 1 + i%2*4 })
	add(func(i int) int { return 5 - i%2*4 })
	return lists
}

// sharingNodes have tokens at position 47 if their weights are at least 3, 1, 4, 5 and 2. Turned by any number of steps, they share another position.
func sharingNodes() []int {
	return []int{1, 3, 15, 39, 61}
}

// eachSharing calls check with these nodes and all weights: each order of them and of the smallest node is among these calls.
func eachSharing(check func(nodes, weights []int)) {
	weights := make([]int, 5)
	for _, by := range []int{0, 3, 10, 30, 50} {
		nodes := turned(sharingNodes(), by)
		for number := range 5 * 5 * 5 * 5 * 5 {
			for i := range weights {
				weights[i] = 1 + number%5
				number /= 5
			}
			check(nodes, weights)
		}
	}
}

// hiders returns nodes smaller than the given one that have all of its positions, and their weights; there may be none.
func hiders(node, weight int) (nodes, weights []int) {
	for _, p := range modelTokens(node, weight) {
		if n := slices.IndexFunc(allKeys()[:node], func(n int) bool { return slices.Contains(modelTokens(n, 5), p) }); n >= 0 {
			nodes = append(nodes, n)
		} else {
			return nil, nil
		}
	}
	slices.Sort(nodes)
	nodes = slices.Compact(nodes)
	return nodes, slices.Repeat([]int{5}, len(nodes))
}

// placed is a set of nodes and their weights.
type placed struct{ nodes, weights []int }

// hiddenNodes returns sets whose last node has no token in the table, as all of its positions belong to smaller ones.
var hiddenNodes = sync.OnceValue(func() []placed {
	list := []placed{}
	for node := range impl.Circle {
		for weight := 1; weight <= impl.MaxTokens; weight++ {
			if nodes, weights := hiders(node, weight); len(nodes) > 0 {
				list = append(list, placed{append(nodes, node), append(weights, weight)})
			}
		}
	}
	return list
})

// somePlaced returns sets of all sizes with several weights each, and sets that share positions.
var somePlaced = sync.OnceValue(func() []placed {
	list := slices.Clone(hiddenNodes())
	add := func(nodes []int) {
		for _, weights := range weightsOf(len(nodes)) {
			list = append(list, placed{nodes, weights})
		}
	}
	for i, nodes := range lookupSets() {
		if len(nodes) == 1 || i%3 == 0 {
			add(nodes)
		}
	}
	for by := range impl.Circle {
		add(turned(sharingNodes(), by))
		add(turned([]int{0, 2}, by))
		add(turned([]int{1, 5, 27, 51, 57, 63}, by))
	}
	return list
})

// eachPlaced calls check for all of these sets.
func eachPlaced(check func(nodes, weights []int)) {
	for _, x := range somePlaced() {
		check(x.nodes, x.weights)
	}
}

// allTables returns the tables of these sets, as they should be, and tables in which other nodes have tokens.
var allTables = sync.OnceValue(func() [][]impl.Token {
	tables := slices.Clone(freeTables())
	eachPlaced(func(nodes, weights []int) { tables = append(tables, modelTable(nodes, weights)) })
	return tables
})

// eachTable calls check for all of these tables.
func eachTable(check func(table []impl.Token)) {
	for _, table := range allTables() {
		check(table)
	}
}

// freeTables returns tables with tokens at any positions, of one node, of two in turn, of several, and each of a node of its own.
var freeTables = sync.OnceValue(func() [][]impl.Token {
	tables := [][]impl.Token{}
	add := func(positions []int) {
		tables = append(tables, tokens(positions, 0), tokens(positions, 63), tokens(positions, 63, 0), tokens(positions, 5, 5, 9), tokens(positions, 7, 3, 30, 31, 3), tokens(positions, positions...), tokens(positions, allKeys()...))
	}
	for i, set := range lookupSets() {
		if len(set) == 1 || i%5 == 0 {
			add(set)
		}
	}
	add(allKeys())
	add(allKeys()[1:])
	add(allKeys()[:63])
	add([]int{0, 2, 4, 6, 8, 10, 12, 14, 16, 18, 20, 22, 50, 51, 52, 53, 54, 60, 61, 62, 63})
	return tables
})

// someTables returns fewer tables, each of which is compared with all others.
func someTables() [][]impl.Token {
	tables := [][]impl.Token{
		{token(0, 0)}, {token(63, 0)}, {token(0, 63)}, {token(30, 7)}, {token(30, 8)}, {token(31, 7)},
		{token(10, 1), token(20, 2)}, {token(10, 2), token(20, 1)}, {token(10, 1), token(21, 2)}, {token(10, 1), token(20, 1)}, {token(0, 1), token(63, 2)},
	}
	for i, table := range allTables() {
		if i%80 == 0 || len(table) > 60 {
			tables = append(tables, table)
		}
	}
	return tables
}

// otherNodes returns the same tokens, of other nodes; two of one node are of one node again.
func otherNodes(table []impl.Token, by int) []impl.Token {
	others := []impl.Token{}
	for _, t := range table {
		others = append(others, token(t.Position, (t.Node+by)%impl.Circle))
	}
	return others
}

// eachTables calls check with all pairs of these tables, with tables and themselves, and with tables with the same tokens of other nodes.
func eachTables(check func(a, b []impl.Token)) {
	tables := someTables()
	for _, a := range tables {
		for _, b := range tables {
			check(a, b)
		}
	}
	eachTable(func(table []impl.Token) {
		check(table, table)
		for _, by := range []int{1, 32, 63} {
			check(table, otherNodes(table, by))
			check(otherNodes(table, by), table)
		}
	})
}

// tokenKeys returns the positions of the tokens, those one below and one above them, and the ends of the circle.
func tokenKeys(table []impl.Token) []int {
	keys := []int{0, impl.Circle - 1}
	for _, t := range table {
		keys = append(keys, t.Position, up(t.Position), down(t.Position))
	}
	slices.Sort(keys)
	return slices.Compact(keys)
}
