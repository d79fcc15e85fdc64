package tests

import (
	"testing"

	"loop.example/ringoverlay/impl"
)

// stepCase is a step of a ring and the ring that it must return; nil stands for the unchanged ring.
type stepCase struct {
	name      string
	ring      []impl.Node
	id, other int
	want      []impl.Node
	ok        bool
}

func checkCases(t *testing.T, name string, cases []stepCase) {
	t.Helper()
	kind := stepNamed(name)
	for _, c := range cases {
		if !walkSafe(c.ring) {
			t.Errorf("%s: %v is not safe", c.name, c.ring)
		}
		want := c.want
		if want == nil {
			want = c.ring
		}
		if got, ok := kind.do(c.ring, c.id, c.other); ok != c.ok || !sameRing(got, want) {
			t.Errorf("%s: %s(%v, %d, %d) = %v, %v, want %v, %v", c.name, name, c.ring, c.id, c.other, got, ok, want, c.ok)
		}
	}
}

// afterFail is fourNodes after node 50 failed.
func afterFail() []impl.Node {
	return without(fourNodes(), 3)
}

// afterJoin is fourNodes after node 10 joined behind node 5.
func afterJoin() []impl.Node {
	return joined(fourNodes(), node(10, 5, 20, 35))
}

// skipping is fourNodes where node 5 skips node 20, so that there are exactly Base principals.
func skipping() []impl.Node {
	return changed(0, node(5, 50, 35, 50))
}

// around has nodes at both ends of the circle.
func around() []impl.Node {
	return []impl.Node{node(0, 63, 20, 40), node(20, 0, 40, 63), node(40, 20, 63, 0), node(63, 40, 0, 20)}
}

func TestJoinCases(t *testing.T) {
	ring, most := fourNodes(), mostNodes()
	dead := changed(0, node(5, 50, 10, 20))
	dropped := replaced(afterFail(), node(35, 20, 5, 6))
	checkCases(t, "RingJoin", []stepCase{
		{"in the middle of a gap", ring, 10, 5, afterJoin(), true},
		{"just above the node", ring, 6, 5, joined(ring, node(6, 5, 20, 35)), true},
		{"just below the first successor", ring, 19, 5, joined(ring, node(19, 5, 20, 35)), true},
		{"above the highest node", ring, 55, 50, joined(ring, node(55, 50, 5, 20)), true},
		{"below the lowest node", ring, 2, 50, joined(ring, node(2, 50, 5, 20)), true},
		{"at the highest position", ring, 63, 50, joined(ring, node(63, 50, 5, 20)), true},
		{"at the lowest position", ring, 0, 50, joined(ring, node(0, 50, 5, 20)), true},
		{"behind the highest position, above a dead successor", removed(around(), 0), 5, 63, nil, false},
		{"behind the lowest position", around(), 1, 0, joined(around(), node(1, 0, 20, 40)), true},
		{"behind a node that joined", afterJoin(), 15, 10, joined(afterJoin(), node(15, 10, 20, 35)), true},
		{"beside a node that joined", afterJoin(), 15, 5, joined(afterJoin(), node(15, 5, 20, 35)), true},
		{"before a node that joined", afterJoin(), 7, 5, joined(afterJoin(), node(7, 5, 20, 35)), true},
		{"before a dead first successor", dead, 7, 5, joined(dead, node(7, 5, 10, 20)), true},
		{"at a dead first successor", dead, 10, 5, nil, false},
		{"above a dead first successor", dead, 15, 5, nil, false},
		{"where a node failed and is known", afterFail(), 50, 35, nil, false},
		{"where a node failed and was dropped", dropped, 50, 35, joined(dropped, node(50, 35, 5, 6)), true},
		{"at a dropped successor's next position", dropped, 6, 5, joined(dropped, node(6, 5, 20, 35)), true},
		{"above a node that is skipped", skipping(), 25, 5, joined(skipping(), node(25, 5, 35, 50)), true},
		{"behind a node that is skipped", skipping(), 25, 20, joined(skipping(), node(25, 20, 35, 50)), true},
		{"behind a node without predecessor", changed(0, node(5, -1, 20, 35)), 10, 5, joined(changed(0, node(5, -1, 20, 35)), node(10, 5, 20, 35)), true},
		{"behind another node", ring, 10, 20, nil, false},
		{"behind the node above", ring, 10, 50, nil, false},
		{"at the node itself", ring, 5, 5, nil, false},
		{"at the first successor", ring, 20, 5, nil, false},
		{"at the second successor", ring, 35, 5, nil, false},
		{"at a live node that is skipped", skipping(), 20, 5, nil, false},
		{"behind a dead position", ring, 10, 6, nil, false},
		{"behind its own dead position", ring, 10, 10, nil, false},
		{"behind a dead successor", dead, 15, 10, nil, false},
		{"MaxNodes nodes", most, 4, 3, nil, false},
		{"MaxNodes nodes, at the end", most, 63, 57, nil, false},
		{"one node less", removed(most, 33), 4, 3, joined(removed(most, 33), node(4, 3, 9, 15)), true},
	})
}

func TestFailCases(t *testing.T) {
	ring, most := fourNodes(), mostNodes()
	leaning := changed(0, node(5, 50, 10, 20))
	checkCases(t, "RingFail", []stepCase{
		{"highest node", ring, 50, 0, afterFail(), true},
		{"lowest node", ring, 5, 0, removed(ring, 5), true},
		{"node in the middle", ring, 20, 0, removed(ring, 20), true},
		{"highest position", around(), 63, 0, removed(around(), 63), true},
		{"lowest position", around(), 0, 0, removed(around(), 0), true},
		{"one of Base nodes", walkRing([]int{5, 20, 35}), 20, 0, nil, false},
		{"one of Base nodes, at the end", walkRing([]int{0, 30, 63}), 63, 0, nil, false},
		{"one of Base remaining nodes", afterFail(), 5, 0, nil, false},
		{"one of Base principals", skipping(), 35, 0, nil, false},
		{"the principal that skips another node", skipping(), 5, 0, removed(skipping(), 5), true},
		{"not one of Base principals", skipping(), 20, 0, removed(skipping(), 20), true},
		{"only live successor of a node", leaning, 20, 0, nil, false},
		{"another node than the only live successor", leaning, 35, 0, removed(leaning, 35), true},
		{"node that joined", afterJoin(), 10, 0, ring, true},
		{"node behind which one joined", afterJoin(), 5, 0, removed(afterJoin(), 5), true},
		{"one of MaxNodes", most, 57, 0, removed(most, 57), true},
		{"neighbour of a dead node", removed(most, 57), 51, 0, nil, false},
		{"neighbour above a dead node", removed(most, 57), 3, 0, nil, false},
		{"another node beside a dead one", removed(most, 57), 45, 0, removed(removed(most, 57), 45), true},
		{"dead position", ring, 10, 0, nil, false},
		{"lowest position, dead", ring, 0, 0, nil, false},
		{"highest position, dead", ring, 63, 0, nil, false},
		{"dead successor", leaning, 10, 0, nil, false},
	})
}

func TestDropCases(t *testing.T) {
	dead := changed(0, node(5, 50, 10, 20))
	most := removed(mostNodes(), 57)
	atEnd := removed(replaced(around(), node(20, 0, 50, 63)), 40)
	checkCases(t, "RingDrop", []stepCase{
		{"node that failed", afterFail(), 35, 0, replaced(afterFail(), node(35, 20, 5, 6)), true},
		{"lowest node failed", removed(fourNodes(), 5), 50, 0, replaced(removed(fourNodes(), 5), node(50, 35, 20, 21)), true},
		{"position that never was a node", dead, 5, 0, replaced(dead, node(5, 50, 20, 21)), true},
		{"next position is a node", joined(dead, node(21, 20, 35, 50)), 5, 0, joined(replaced(dead, node(5, 50, 20, 21)), node(21, 20, 35, 50)), true},
		{"second successor at the highest position", atEnd, 20, 0, replaced(atEnd, node(20, 0, 63, 0)), true},
		{"second successor at the lowest position", removed(around(), 63), 40, 0, replaced(removed(around(), 63), node(40, 20, 0, 1)), true},
		{"no predecessor", replaced(dead, node(5, -1, 10, 20)), 5, 0, replaced(dead, node(5, -1, 20, 21)), true},
		{"dead predecessor", replaced(afterFail(), node(35, 30, 50, 5)), 35, 0, replaced(afterFail(), node(35, 30, 5, 6)), true},
		{"MaxNodes less one", most, 51, 0, replaced(most, node(51, 45, 3, 4)), true},
		{"ideal", fourNodes(), 5, 0, nil, false},
		{"dead second successor", afterFail(), 20, 0, nil, false},
		{"dead predecessor, live successors", afterFail(), 5, 0, nil, false},
		{"live successor that is far away", skipping(), 5, 0, nil, false},
		{"dead node", afterFail(), 50, 0, nil, false},
		{"position that never was a node itself", dead, 10, 0, nil, false},
		{"another node", dead, 20, 0, nil, false},
	})
}

func TestAdoptCases(t *testing.T) {
	stale := changed(0, node(5, 50, 20, 25))
	far := changed(1, node(20, 5, 35, 5))
	deadFirst := changed(1, node(20, 5, 30, 35))
	checkCases(t, "RingAdopt", []stepCase{
		{"ideal", fourNodes(), 5, 0, fourNodes(), true},
		{"ideal, highest node", fourNodes(), 50, 0, fourNodes(), true},
		{"dead second successor", stale, 5, 0, fourNodes(), true},
		{"second successor that skips", far, 20, 0, fourNodes(), true},
		{"second successor of the highest node", changed(3, node(50, 35, 5, 35)), 50, 0, fourNodes(), true},
		{"second successor around the end", replaced(around(), node(40, 20, 63, 20)), 40, 0, around(), true},
		{"first successor has a dead one", deadFirst, 5, 0, replaced(deadFirst, node(5, 50, 20, 30)), true},
		{"dead second successor that is known", afterFail(), 20, 0, afterFail(), true},
		{"first successor skips", skipping(), 50, 0, replaced(skipping(), node(50, 35, 5, 35)), true},
		{"no predecessor", replaced(stale, node(5, -1, 20, 25)), 5, 0, replaced(stale, node(5, -1, 20, 35)), true},
		{"node that joined is not found", afterJoin(), 5, 0, afterJoin(), true},
		{"MaxNodes", replaced(mostNodes(), node(57, 51, 3, 4)), 57, 0, mostNodes(), true},
		{"dead first successor", afterFail(), 35, 0, nil, false},
		{"dead first successor, live second one", changed(0, node(5, 50, 10, 20)), 5, 0, nil, false},
		{"dead node", afterFail(), 50, 0, nil, false},
		{"dead position", stale, 25, 0, nil, false},
	})
}

func TestCloserCases(t *testing.T) {
	stale := changed(0, node(5, 50, 25, 35))
	chain := replaced(skipping(), node(20, 5, 30, 35))
	lowest := changed(3, node(50, 35, 20, 35))
	checkCases(t, "RingCloser", []stepCase{
		{"node that joined", afterJoin(), 5, 10, replaced(afterJoin(), node(5, 50, 10, 20)), true},
		{"node that is skipped", skipping(), 5, 20, fourNodes(), true},
		{"dead first successor", stale, 5, 20, fourNodes(), true},
		{"other one has a dead successor", chain, 5, 20, replaced(chain, node(5, 50, 20, 30)), true},
		{"lowest node for the highest", lowest, 50, 5, fourNodes(), true},
		{"lowest position for the highest", replaced(around(), node(63, 40, 20, 40)), 63, 0, around(), true},
		{"highest position", replaced(around(), node(40, 20, 0, 20)), 40, 63, around(), true},
		{"no predecessor", replaced(skipping(), node(5, -1, 35, 50)), 5, 20, changed(0, node(5, -1, 20, 35)), true},
		{"MaxNodes", replaced(mostNodes(), node(57, 51, 9, 15)), 57, 3, mostNodes(), true},
		{"dead position", fourNodes(), 5, 10, nil, false},
		{"dead node that is known", replaced(afterFail(), node(35, 50, 5, 20)), 35, 50, nil, false},
		{"first successor", fourNodes(), 5, 20, nil, false},
		{"dead first successor itself", stale, 5, 25, nil, false},
		{"second successor", fourNodes(), 5, 35, nil, false},
		{"node below", fourNodes(), 5, 50, nil, false},
		{"node above a dead first successor", changed(0, node(5, 50, 10, 20)), 5, 20, nil, false},
		{"node itself", fourNodes(), 5, 5, nil, false},
		{"node that is not there", afterJoin(), 6, 10, nil, false},
		{"neither is there", fourNodes(), 6, 10, nil, false},
	})
}

func TestNotifyCases(t *testing.T) {
	unknown, dead := changed(1, node(20, -1, 35, 50)), changed(1, node(20, 10, 35, 50))
	self, far := changed(1, node(20, 20, 35, 50)), changed(0, node(5, 35, 20, 35))
	before := func(ring []impl.Node, id, other int) []impl.Node {
		n, _ := find(ring, id)
		return replaced(ring, node(id, other, n.After...))
	}
	checkCases(t, "RingNotify", []stepCase{
		{"unknown", unknown, 20, 5, fourNodes(), true},
		{"unknown, far away", unknown, 20, 35, before(unknown, 20, 35), true},
		{"dead", dead, 20, 5, fourNodes(), true},
		{"dead, farther away", dead, 20, 50, before(dead, 20, 50), true},
		{"dead, that of a node that failed", afterFail(), 5, 35, before(afterFail(), 5, 35), true},
		{"nearer", afterJoin(), 20, 10, before(afterJoin(), 20, 10), true},
		{"nearer around the end", far, 5, 50, fourNodes(), true},
		{"nearer at the highest position", before(around(), 0, 40), 0, 63, around(), true},
		{"nearer at the lowest position", before(around(), 20, 63), 20, 0, around(), true},
		{"itself", self, 20, 35, before(self, 20, 35), true},
		{"itself, nearest", self, 20, 5, fourNodes(), true},
		{"MaxNodes", before(mostNodes(), 3, -1), 3, 57, mostNodes(), true},
		{"farther away", fourNodes(), 20, 50, nil, false},
		{"farther away, above", fourNodes(), 20, 35, nil, false},
		{"farther away around the end", fourNodes(), 5, 35, nil, false},
		{"the same", fourNodes(), 20, 5, nil, false},
		{"other one is the node, ideal", fourNodes(), 20, 20, nil, false},
		{"other one is the node, unknown", unknown, 20, 20, nil, false},
		{"other one is the node, dead", dead, 20, 20, nil, false},
		{"other one is the node, itself", self, 20, 20, nil, false},
		{"other one is dead, unknown", unknown, 20, 10, nil, false},
		{"other one is dead, dead", dead, 20, 12, nil, false},
		{"other one is dead, the same", dead, 20, 10, nil, false},
		{"other one is dead, nearer", fourNodes(), 20, 10, nil, false},
		{"node that is not there", fourNodes(), 19, 5, nil, false},
		{"neither is there", fourNodes(), 19, 6, nil, false},
	})
}

func TestStabilizeCases(t *testing.T) {
	seen := replaced(afterJoin(), node(20, 10, 35, 50))
	lost := replaced(skipping(), node(20, -1, 35, 50))
	ghost := replaced(skipping(), node(35, 30, 50, 5))
	blank := changed(1, node(20, -1, 35, 50))
	chain := replaced(skipping(), node(20, 5, 30, 35))
	checkCases(t, "RingStabilize", []stepCase{
		{"ideal", fourNodes(), 5, 0, fourNodes(), true},
		{"ideal, highest node", fourNodes(), 50, 0, fourNodes(), true},
		{"MaxNodes", mostNodes(), 57, 0, mostNodes(), true},
		{"first successor failed", afterFail(), 35, 0, []impl.Node{node(5, 35, 20, 35), node(20, 5, 35, 50), node(35, 20, 5, 20)}, true},
		{"second successor failed", afterFail(), 20, 0, afterFail(), true},
		{"predecessor failed", afterFail(), 5, 0, afterFail(), true},
		{"highest position failed", removed(around(), 63), 40, 0, []impl.Node{node(0, 40, 20, 40), node(20, 0, 40, 63), node(40, 20, 0, 20)}, true},
		{"node that joined", afterJoin(), 10, 0, seen, true},
		{"node behind which one joined", afterJoin(), 5, 0, afterJoin(), true},
		{"node behind which one joined, afterwards", seen, 5, 0, replaced(seen, node(5, 50, 10, 20)), true},
		{"closer one is told of the node", lost, 5, 0, fourNodes(), true},
		{"closer one has a dead successor", chain, 5, 0, replaced(chain, node(5, 50, 20, 30)), true},
		{"predecessor of the first successor is dead", ghost, 5, 0, replaced(ghost, node(35, 5, 50, 5)), true},
		{"predecessor of the first successor is unknown", blank, 5, 0, fourNodes(), true},
		{"predecessor of the first successor is itself", changed(1, node(20, 20, 35, 50)), 5, 0, fourNodes(), true},
		{"predecessor of the first successor is farther away", changed(1, node(20, 35, 35, 50)), 5, 0, fourNodes(), true},
		{"own predecessor is unknown", blank, 20, 0, blank, true},
		{"dead second successor", changed(0, node(5, 50, 20, 25)), 5, 0, fourNodes(), true},
		{"dead first successor that never was a node", changed(0, node(5, 50, 10, 20)), 5, 0, fourNodes(), true},
		{"dead node", afterFail(), 50, 0, nil, false},
		{"dead position", fourNodes(), 10, 0, nil, false},
	})
}

func TestRoundCases(t *testing.T) {
	first := replaced(afterJoin(), node(20, 10, 35, 50))
	for _, c := range []struct {
		name       string
		ring, want []impl.Node
	}{
		{"ideal", fourNodes(), fourNodes()},
		{"MaxNodes", mostNodes(), mostNodes()},
		{"Base", walkRing([]int{0, 30, 63}), walkRing([]int{0, 30, 63})},
		{"joined", afterJoin(), first},
		{"joined, second round", first, walkRing([]int{5, 10, 20, 35, 50})},
		{"failed", afterFail(), []impl.Node{node(5, 35, 20, 35), node(20, 5, 35, 50), node(35, 20, 5, 20)}},
		{"failed, second round", []impl.Node{node(5, 35, 20, 35), node(20, 5, 35, 50), node(35, 20, 5, 20)}, walkRing([]int{5, 20, 35})},
		{"lowest position failed", removed(around(), 0), []impl.Node{node(20, 63, 40, 63), node(40, 20, 63, 0), node(63, 40, 20, 40)}},
		{"no predecessors", forgetful(fourNodes())[0], fourNodes()},
		{"dead predecessors", forgetful(fourNodes())[1], fourNodes()},
		{"themselves as predecessors", forgetful(fourNodes())[2], fourNodes()},
	} {
		if got := impl.RingRound(c.ring); !sameRing(got, c.want) {
			t.Errorf("%s: RingRound(%v) = %v, want %v", c.name, c.ring, got, c.want)
		}
	}
}

func TestCalmCases(t *testing.T) {
	crowded := crowd(walkRing([]int{5, 20, 35}), 20)[6]
	for _, c := range []struct {
		name string
		ring []impl.Node
		ids  []int
	}{
		{"ideal", fourNodes(), []int{5, 20, 35, 50}},
		{"MaxNodes", mostNodes(), walkIds(mostNodes())},
		{"Base", walkRing([]int{0, 30, 63}), []int{0, 30, 63}},
		{"joined", afterJoin(), []int{5, 10, 20, 35, 50}},
		{"failed", afterFail(), []int{5, 20, 35}},
		{"crowd", crowded, []int{5, 20, 21, 22, 23, 24, 25, 26, 27, 35}},
		{"highest position failed", removed(around(), 63), []int{0, 20, 40}},
		{"lowest position joined", joined(fourNodes(), node(0, 50, 5, 20)), []int{0, 5, 20, 35, 50}},
		{"every second node failed", removed(removed(removed(mostNodes(), 3), 15), 27), []int{9, 21, 33, 39, 45, 51, 57}},
		{"Base principals", skipping(), []int{5, 20, 35, 50}},
		{"successors far away", []impl.Node{node(0, -1, 1, 63), node(1, -1, 63, 0), node(30, -1, 63, 0), node(31, -1, 63, 0), node(63, -1, 0, 1)}, []int{0, 1, 30, 31, 63}},
	} {
		if got := impl.RingCalm(c.ring); !sameRing(got, walkRing(c.ids)) {
			t.Errorf("%s: RingCalm(%v) = %v", c.name, c.ring, got)
		}
	}
	if rounds := roundsOf(crowded); rounds < 8 {
		t.Errorf("the crowd needs only %d rounds", rounds)
	}
}

// roundsOf counts the rounds of the model until nothing changes.
func roundsOf(ring []impl.Node) int {
	for rounds := 0; ; rounds++ {
		next := modelRound(ring)
		if sameRing(next, ring) {
			return rounds
		}
		ring = next
	}
}

// Every step of many rings is compared with the model.
func TestStepsModelled(t *testing.T) {
	for _, kind := range ringSteps() {
		eachStep(t, kind.name, func(ring []impl.Node, id, other int, got []impl.Node, ok bool) {
			if want, fine := kind.model(ring, id, other); ok != fine || !sameRing(got, want) {
				t.Fatalf("%s(%v, %d, %d) = %v, %v, want %v, %v", kind.name, ring, id, other, got, ok, want, fine)
			}
		})
	}
}

// All pairs of positions are tried for some rings.
func TestStepsAllPositions(t *testing.T) {
	for _, ring := range [][]impl.Node{fourNodes(), afterFail(), skipping(), around(), removed(around(), 0), mostNodes(), forgetful(around())[0]} {
		for _, kind := range ringSteps() {
			for id := 0; id < impl.Circle; id++ {
				for other := 0; other < impl.Circle; other++ {
					got, ok := kind.do(ring, id, other)
					if want, fine := kind.model(ring, id, other); ok != fine || !sameRing(got, want) {
						t.Fatalf("%s(%v, %d, %d) = %v, %v, want %v, %v", kind.name, ring, id, other, got, ok, want, fine)
					}
				}
			}
		}
	}
}

func TestRoundsModelled(t *testing.T) {
	check := func(ring []impl.Node) {
		if got, want := impl.RingRound(ring), modelRound(ring); !sameRing(got, want) {
			t.Fatalf("RingRound(%v) = %v, want %v", ring, got, want)
		}
		if got, want := impl.RingCalm(ring), walkRing(walkIds(ring)); !sameRing(got, want) {
			t.Fatalf("RingCalm(%v) = %v, want %v", ring, got, want)
		}
	}
	for _, ring := range stepRings() {
		check(ring)
	}
	safeRings(t, check)
}

// unsafeRings returns rings that are not safe, the invalid ones included.
func unsafeRings() [][]impl.Node {
	rings := [][]impl.Node{nil, {}, {node(5, 5, 5, 5)}, {node(5, 20, 20, 5), node(20, 5, 5, 20)}, without(walkRing([]int{5, 20, 35}), 1)}
	for _, ring := range badRings() {
		rings = append(rings, ring)
	}
	for _, ideal := range [][]impl.Node{walkRing([]int{0, 30, 63}), fourNodes(), mostNodes()} {
		for _, ring := range damaged(ideal) {
			if !walkSafe(ring) {
				rings = append(rings, ring)
			}
		}
		for i := range ideal {
			ring := cloneRing(ideal)
			ring[i].Before = -2
			rings = append(rings, ring)
			ring = cloneRing(ideal)
			ring[i].After[1] = impl.Circle
			rings = append(rings, ring)
		}
	}
	return rings
}

// checkEmpty requires that all steps return an empty ring and false.
func checkEmpty(t *testing.T, ring []impl.Node, id, other int) {
	t.Helper()
	for _, kind := range ringSteps() {
		if got, ok := kind.do(ring, id, other); ok || len(got) != 0 {
			t.Fatalf("%s(%v, %d, %d) = %v, %v, want an empty ring", kind.name, ring, id, other, got, ok)
		}
	}
}

func TestStepsUnsafe(t *testing.T) {
	for _, ring := range unsafeRings() {
		positions := []int{0, 5, 10, 20, 30, 35, 50, 57, 63, -1, impl.Circle}
		for _, n := range ring {
			positions = append(positions, n.Id)
		}
		for _, id := range positions {
			for _, other := range positions {
				checkEmpty(t, ring, id, other)
			}
		}
		if got := impl.RingRound(ring); len(got) != 0 {
			t.Errorf("RingRound(%v) = %v, want an empty ring", ring, got)
		}
		if got := impl.RingCalm(ring); len(got) != 0 {
			t.Errorf("RingCalm(%v) = %v, want an empty ring", ring, got)
		}
	}
}

func TestStepsNotPositions(t *testing.T) {
	for _, ring := range [][]impl.Node{fourNodes(), afterFail(), afterJoin(), mostNodes(), around(), forgetful(fourNodes())[0]} {
		for _, bad := range notPositions {
			for _, good := range append(walkIds(ring), 0, 10, impl.Circle-1) {
				checkEmpty(t, ring, bad, good)
				checkEmpty(t, ring, bad, bad)
				for _, kind := range ringSteps() {
					if !kind.pair {
						continue
					}
					if got, ok := kind.do(ring, good, bad); ok || len(got) != 0 {
						t.Errorf("%s(%v, %d, %d) = %v, %v, want an empty ring", kind.name, ring, good, bad, got, ok)
					}
				}
			}
		}
	}
}

// The rings of these tests have all that makes steps difficult.
func TestStepRings(t *testing.T) {
	count := map[string]int{}
	for _, ring := range stepRings() {
		if len(ring) == impl.MaxNodes {
			count["MaxNodes nodes"]++
		}
		if len(walkPrincipals(ring)) == impl.Base && len(ring) > impl.Base {
			count["Base principals of more nodes"]++
		}
		for i, n := range ring {
			first, second := n.After[0], n.After[1]
			if n.Before == -1 {
				count["unknown predecessor"]++
			} else if !isLive(ring, n.Before) {
				count["dead predecessor"]++
			} else if n.Before != walkBefore(walkIds(ring), n.Id) {
				count["far predecessor"]++
			}
			if !isLive(ring, first) {
				count["dead first successor"]++
			} else if first != ring[(i+1)%len(ring)].Id {
				count["far first successor"]++
			}
			if !isLive(ring, second) {
				count["dead second successor"]++
			}
			if n.Id > first && !isLive(ring, first) {
				count["dead first successor around the end"]++
			}
			if second == impl.Circle-1 && !isLive(ring, first) {
				count["second successor at the end, dead first one"]++
			}
		}
	}
	for _, name := range []string{"MaxNodes nodes", "Base principals of more nodes", "unknown predecessor", "dead predecessor", "far predecessor", "dead first successor",
		"far first successor", "dead second successor", "dead first successor around the end", "second successor at the end, dead first one"} {
		if count[name] < 5 {
			t.Errorf("%s: only %d", name, count[name])
		}
	}
}
