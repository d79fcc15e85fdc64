package tests

import (
	"slices"
	"sync"
	"testing"

	"loop.example/ringoverlay/impl"
)

// ringStep is a function of chapter 4 that changes one node, and a model of it that follows the document for safe rings and positions.
type ringStep struct {
	name  string
	pair  bool // it has a third argument
	do    func(ring []impl.Node, id, other int) ([]impl.Node, bool)
	model func(ring []impl.Node, id, other int) ([]impl.Node, bool)
}

// single gives a function without a third argument the form of the others.
func single(f func([]impl.Node, int) ([]impl.Node, bool)) func([]impl.Node, int, int) ([]impl.Node, bool) {
	return func(ring []impl.Node, id, _ int) ([]impl.Node, bool) { return f(ring, id) }
}

func ringSteps() []ringStep {
	return []ringStep{
		{"RingJoin", true, impl.RingJoin, modelJoin},
		{"RingFail", false, single(impl.RingFail), single(modelFail)},
		{"RingDrop", false, single(impl.RingDrop), single(modelDrop)},
		{"RingAdopt", false, single(impl.RingAdopt), single(modelAdopt)},
		{"RingCloser", true, impl.RingCloser, modelCloser},
		{"RingNotify", true, impl.RingNotify, modelNotify},
		{"RingStabilize", false, single(impl.RingStabilize), single(modelStabilize)},
	}
}

// stepNamed returns one of the steps.
func stepNamed(name string) ringStep {
	all := ringSteps()
	return all[slices.IndexFunc(all, func(s ringStep) bool { return s.name == name })]
}

// find returns the node at a position, and whether it is live.
func find(ring []impl.Node, id int) (impl.Node, bool) {
	for _, n := range ring {
		if n.Id == id {
			return n, true
		}
	}
	return impl.Node{}, false
}

func isLive(ring []impl.Node, id int) bool {
	_, ok := find(ring, id)
	return ok
}

// replaced returns the ring with another node in the place of the one with the same position.
func replaced(ring []impl.Node, n impl.Node) []impl.Node {
	ring = cloneRing(ring)
	for i := range ring {
		if ring[i].Id == n.Id {
			ring[i] = n
		}
	}
	return ring
}

// joined returns the ring with a further node.
func joined(ring []impl.Node, n impl.Node) []impl.Node {
	ring = append(cloneRing(ring), n)
	slices.SortFunc(ring, func(a, b impl.Node) int { return a.Id - b.Id })
	return ring
}

// removed returns the ring without the node at a position.
func removed(ring []impl.Node, id int) []impl.Node {
	return slices.DeleteFunc(cloneRing(ring), func(n impl.Node) bool { return n.Id == id })
}

func modelJoin(ring []impl.Node, id, at int) ([]impl.Node, bool) {
	behind, ok := find(ring, at)
	if !ok || isLive(ring, id) || len(ring) >= 10 || !walkBetween(at, id, behind.After[0]) {
		return ring, false
	}
	return joined(ring, node(id, at, behind.After[0], behind.After[1])), true
}

func modelFail(ring []impl.Node, id int) ([]impl.Node, bool) {
	if fewer := removed(ring, id); len(fewer) < len(ring) && walkSafe(fewer) {
		return fewer, true
	}
	return ring, false
}

func modelDrop(ring []impl.Node, id int) ([]impl.Node, bool) {
	n, ok := find(ring, id)
	if !ok || isLive(ring, n.After[0]) {
		return ring, false
	}
	return replaced(ring, node(id, n.Before, n.After[1], up(n.After[1]))), true
}

func modelAdopt(ring []impl.Node, id int) ([]impl.Node, bool) {
	n, ok := find(ring, id)
	if !ok || !isLive(ring, n.After[0]) {
		return ring, false
	}
	first, _ := find(ring, n.After[0])
	return replaced(ring, node(id, n.Before, first.Id, first.After[0])), true
}

func modelCloser(ring []impl.Node, id, other int) ([]impl.Node, bool) {
	n, ok := find(ring, id)
	near, live := find(ring, other)
	if !ok || !live || !walkBetween(id, other, n.After[0]) {
		return ring, false
	}
	return replaced(ring, node(id, n.Before, other, near.After[0])), true
}

func modelNotify(ring []impl.Node, id, other int) ([]impl.Node, bool) {
	n, ok := find(ring, id)
	if !ok || !isLive(ring, other) || other == id {
		return ring, false
	}
	if n.Before != -1 && isLive(ring, n.Before) && !walkBetween(n.Before, other, id) {
		return ring, false
	}
	return replaced(ring, node(id, other, n.After...)), true
}

func modelStabilize(ring []impl.Node, id int) ([]impl.Node, bool) {
	if !isLive(ring, id) {
		return ring, false
	}
	for ok := true; ok; {
		ring, ok = modelDrop(ring, id)
	}
	ring, _ = modelAdopt(ring, id)
	n, _ := find(ring, id)
	if first, _ := find(ring, n.After[0]); first.Before != -1 {
		ring, _ = modelCloser(ring, id, first.Before)
	}
	n, _ = find(ring, id)
	ring, _ = modelNotify(ring, n.After[0], id)
	return ring, true
}

func modelRound(ring []impl.Node) []impl.Node {
	for _, id := range walkIds(ring) {
		ring, _ = modelStabilize(ring, id)
	}
	return ring
}

// spread is a sequence of numbers that is the same in every run.
type spread uint64

func (s *spread) below(limit int) int {
	*s = *s*6364136223846793005 + 1442695040888963407
	return int(uint64(*s)>>33) % limit
}

// near returns the positions that matter for a ring: those of its nodes, what they know, the neighbours of all of these, and the ends of the circle.
func near(ring []impl.Node) []int {
	list := []int{0, impl.Circle - 1}
	for _, n := range ring {
		list = append(list, n.Id, up(n.Id), down(n.Id))
		for _, s := range n.After {
			list = append(list, s, up(s), down(s))
		}
		if n.Before != -1 {
			list = append(list, n.Before, up(n.Before))
		}
	}
	slices.Sort(list)
	return slices.Compact(list)
}

// wander returns the rings of a walk of permitted steps, in which more nodes join and fail than are repaired.
func wander(ring []impl.Node, seed uint64, steps int) [][]impl.Node {
	numbers := spread(seed)
	kinds := []ringStep{stepNamed("RingJoin"), stepNamed("RingJoin"), stepNamed("RingFail"), stepNamed("RingFail"), stepNamed("RingFail"),
		stepNamed("RingDrop"), stepNamed("RingAdopt"), stepNamed("RingCloser"), stepNamed("RingNotify"), stepNamed("RingStabilize")}
	rings := [][]impl.Node{}
	for len(rings) < steps {
		kind := kinds[numbers.below(len(kinds))]
		positions, ids := near(ring), walkIds(ring)
		id, other := positions[numbers.below(len(positions))], ids[numbers.below(len(ids))]
		if kind.name != "RingJoin" {
			id = ids[numbers.below(len(ids))]
		}
		if next, ok := kind.model(ring, id, other); ok && !sameRing(next, ring) {
			ring = next
			rings = append(rings, ring)
		} else if numbers.below(50) == 0 {
			rings = append(rings, ring)
		}
	}
	return rings
}

// forgetful returns the ring with other predecessors of all nodes: unknown, dead, far away, and the nodes themselves.
func forgetful(ring []impl.Node) [][]impl.Node {
	rings := make([][]impl.Node, 5)
	for k := range rings {
		rings[k] = cloneRing(ring)
	}
	for i, n := range ring {
		dead := n.Id
		for isLive(ring, dead) {
			dead = down(dead)
		}
		for k, before := range []int{-1, dead, n.Id, ring[(i+1)%len(ring)].Id, ring[(i+len(ring)-2)%len(ring)].Id} {
			rings[k][i].Before = before
		}
	}
	return rings
}

// crowd returns rings in which one node after the other has joined behind the same one. They need many rounds.
func crowd(ring []impl.Node, at int) [][]impl.Node {
	var rings [][]impl.Node
	behind, _ := find(ring, at)
	for p := up(at); p != behind.After[0] && len(ring) < impl.MaxNodes; p = up(p) {
		ring = joined(ring, node(p, at, behind.After[0], behind.After[1]))
		rings = append(rings, ring)
	}
	return rings
}

// startSets has nodes at both ends of the circle and around its end, neighbouring ones, Base nodes, and MaxNodes nodes.
func startSets() [][]int {
	return [][]int{{5, 20, 35}, {0, 30, 63}, {61, 62, 63}, {0, 1, 2}, {0, 1, 63}, {5, 20, 35, 50}, {0, 20, 40, 63}, {2, 4, 58, 60, 62},
		{7, 8, 9, 30, 50, 63}, walkIds(mostNodes()), {0, 1, 2, 3, 4, 5, 6, 7, 8, 9}, {0, 7, 14, 21, 28, 35, 42, 49, 56, 63}}
}

// stepRings returns safe rings: ideal, damaged and forgetful ones, crowds, and those of walks. They are shared by the tests, which do not change them.
var stepRings = sync.OnceValue(func() [][]impl.Node {
	var rings [][]impl.Node
	add := func(list ...[]impl.Node) {
		for _, ring := range list {
			if walkSafe(ring) && !slices.ContainsFunc(rings, func(r []impl.Node) bool { return sameRing(r, ring) }) {
				rings = append(rings, ring)
			}
		}
	}
	for seed, ids := range startSets() {
		ideal := walkRing(ids)
		add(damaged(ideal)...)
		add(forgetful(ideal)...)
		for _, ring := range wander(ideal, uint64(seed), 60) {
			add(ring)
			add(forgetful(ring)[seed%5])
		}
	}
	for _, at := range []int{0, 30, 60} {
		for _, ring := range crowd(walkRing([]int{0, 30, 60}), at) {
			add(ring)
			add(forgetful(ring)...)
		}
	}
	return rings
})

// eachStep calls check with the results of one of the steps for all these rings, their nodes and other positions that matter for them.
func eachStep(t *testing.T, name string, check func(ring []impl.Node, id, other int, got []impl.Node, ok bool)) {
	t.Helper()
	kind, succeed, fail := stepNamed(name), 0, 0
	for _, ring := range stepRings() {
		positions := near(ring)
		for i, id := range positions {
			for _, other := range othersFor(kind, ring, positions, i) {
				got, ok := kind.do(ring, id, other)
				if ok {
					succeed++
				} else {
					fail++
				}
				check(ring, id, other, got, ok)
			}
		}
	}
	if succeed < 500 || fail < 500 {
		t.Errorf("%s succeeds %d times and fails %d times, which does not test enough", name, succeed, fail)
	}
}

// othersFor returns the third arguments for position number i. For dead nodes a few are enough.
func othersFor(kind ringStep, ring []impl.Node, positions []int, i int) []int {
	switch {
	case !kind.pair:
		return positions[:1]
	case kind.name == "RingJoin":
		return append(walkIds(ring), positions[i], positions[0])
	case !isLive(ring, positions[i]):
		return append(walkIds(ring)[:1], positions[i])
	}
	return positions
}
