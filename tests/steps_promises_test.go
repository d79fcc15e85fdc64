package tests

import (
	"slices"
	"testing"

	"loop.example/ringoverlay/impl"
)

// checkKept requires that the ring is safe and has all principals of the previous one but the given position.
func checkKept(t *testing.T, name string, before, after []impl.Node, but int) {
	t.Helper()
	if !impl.RingSafe(after) || !walkSafe(after) {
		t.Fatalf("%s of %v gives %v, which is not safe", name, before, after)
	}
	principals := impl.RingPrincipals(after)
	for _, p := range impl.RingPrincipals(before) {
		if p != but && !slices.Contains(principals, p) {
			t.Fatalf("%s of %v gives %v, where %d is not a principal any more", name, before, after, p)
		}
	}
}

// checkSafeStep requires it of each step that succeeds.
func checkSafeStep(t *testing.T, name string) {
	t.Helper()
	eachStep(t, name, func(ring []impl.Node, id, other int, got []impl.Node, ok bool) {
		if ok {
			checkKept(t, name, ring, got, -1)
		}
	})
}

func TestPromise25(t *testing.T) { checkSafeStep(t, "RingJoin") }

func TestPromise26(t *testing.T) { checkSafeStep(t, "RingDrop") }

func TestPromise27(t *testing.T) { checkSafeStep(t, "RingAdopt") }

func TestPromise28(t *testing.T) { checkSafeStep(t, "RingCloser") }

func TestPromise29(t *testing.T) { checkSafeStep(t, "RingNotify") }

func TestPromise30(t *testing.T) { checkSafeStep(t, "RingStabilize") }

func TestPromise31(t *testing.T) {
	eachStep(t, "RingFail", func(ring []impl.Node, id, _ int, got []impl.Node, ok bool) {
		if !ok {
			return
		}
		checkKept(t, "RingFail", ring, got, id)
		if !isLive(ring, id) || !sameRing(got, removed(ring, id)) {
			t.Fatalf("RingFail(%v, %d) = %v changes other nodes", ring, id, got)
		}
	})
}

func TestPromise32(t *testing.T) {
	unsafe := 0
	eachStep(t, "RingFail", func(ring []impl.Node, id, _ int, got []impl.Node, ok bool) {
		safe := impl.RingSafe(removed(ring, id))
		if isLive(ring, id) && !safe {
			unsafe++
		}
		if ok != (isLive(ring, id) && safe) || !ok && !sameRing(got, ring) {
			t.Fatalf("RingFail(%v, %d) = %v, %v", ring, id, got, ok)
		}
	})
	if unsafe < 500 {
		t.Errorf("only %d rings are not safe without a node", unsafe)
	}
}

func TestPromise33(t *testing.T) {
	eachStep(t, "RingJoin", func(ring []impl.Node, id, at int, got []impl.Node, ok bool) {
		if !ok {
			return
		}
		added, there := find(got, id)
		behind, _ := find(ring, at)
		if !there || !sameNode(added, node(id, at, behind.After...)) {
			t.Fatalf("RingJoin(%v, %d, %d) adds %v", ring, id, at, added)
		}
		if !impl.RingValid(got) || !sameRing(removed(got, id), ring) {
			t.Fatalf("RingJoin(%v, %d, %d) = %v changes other nodes", ring, id, at, got)
		}
	})
}

func TestPromise34(t *testing.T) {
	reasons := map[string]int{}
	eachStep(t, "RingJoin", func(ring []impl.Node, id, at int, got []impl.Node, ok bool) {
		behind, live := find(ring, at)
		reason := ""
		switch {
		case isLive(ring, id):
			reason = "taken"
		case !live:
			reason = "not live"
		case len(ring) == impl.MaxNodes:
			reason = "MaxNodes"
		case !impl.CircleBetween(at, id, behind.After[0]):
			reason = "not between"
		}
		reasons[reason]++
		if ok != (reason == "") || !ok && !sameRing(got, ring) {
			t.Fatalf("RingJoin(%v, %d, %d) = %v, %v, where the reason is %q", ring, id, at, got, ok, reason)
		}
	})
	for _, reason := range []string{"", "taken", "not live", "MaxNodes", "not between"} {
		if reasons[reason] < 100 {
			t.Errorf("the reason %q is tested only %d times", reason, reasons[reason])
		}
	}
}

func TestPromise35(t *testing.T) {
	eachStep(t, "RingDrop", func(ring []impl.Node, id, _ int, got []impl.Node, ok bool) {
		was, live := find(ring, id)
		if ok != (live && !isLive(ring, was.After[0])) || !ok && !sameRing(got, ring) {
			t.Fatalf("RingDrop(%v, %d) = %v, %v", ring, id, got, ok)
		}
		if is, _ := find(got, id); ok && (is.After[0] != was.After[1] || is.After[1] != (is.After[0]+1)%impl.Circle || !isLive(got, is.After[0])) {
			t.Fatalf("RingDrop(%v, %d) = %v", ring, id, got)
		}
	})
}

func TestPromise36(t *testing.T) {
	eachStep(t, "RingAdopt", func(ring []impl.Node, id, _ int, got []impl.Node, ok bool) {
		was, live := find(ring, id)
		if ok != (live && isLive(ring, was.After[0])) || !ok && !sameRing(got, ring) {
			t.Fatalf("RingAdopt(%v, %d) = %v, %v", ring, id, got, ok)
		}
		if !ok {
			return
		}
		is, _ := find(got, id)
		first, firstLive := find(got, is.After[0])
		if !firstLive || is.After[0] != was.After[0] || is.After[1] != first.After[0] {
			t.Fatalf("RingAdopt(%v, %d) = %v", ring, id, got)
		}
	})
}

func TestPromise37(t *testing.T) {
	eachStep(t, "RingCloser", func(ring []impl.Node, id, other int, got []impl.Node, ok bool) {
		was, live := find(ring, id)
		near, otherLive := find(ring, other)
		if want := live && otherLive && impl.CircleBetween(id, other, was.After[0]); ok != want || !ok && !sameRing(got, ring) {
			t.Fatalf("RingCloser(%v, %d, %d) = %v, %v", ring, id, other, got, ok)
		}
		if !ok {
			return
		}
		is, _ := find(got, id)
		if is.After[0] != other || is.After[1] != near.After[0] || impl.CircleDistance(id, other) >= impl.CircleDistance(id, was.After[0]) {
			t.Fatalf("RingCloser(%v, %d, %d) = %v", ring, id, other, got)
		}
	})
}

func TestPromise38(t *testing.T) {
	reasons := map[string]int{}
	eachStep(t, "RingNotify", func(ring []impl.Node, id, other int, got []impl.Node, ok bool) {
		was, live := find(ring, id)
		reason := ""
		switch {
		case !live || !isLive(ring, other) || id == other:
		case was.Before == -1:
			reason = "unknown"
		case !isLive(ring, was.Before):
			reason = "dead"
		case impl.CircleBetween(was.Before, other, id):
			reason = "farther away"
		}
		reasons[reason]++
		if ok != (reason != "") || !ok && !sameRing(got, ring) {
			t.Fatalf("RingNotify(%v, %d, %d) = %v, %v, where the reason is %q", ring, id, other, got, ok, reason)
		}
		if ok && !sameRing(got, replaced(ring, node(id, other, was.After...))) {
			t.Fatalf("RingNotify(%v, %d, %d) = %v", ring, id, other, got)
		}
	})
	for _, reason := range []string{"", "unknown", "dead", "farther away"} {
		if reasons[reason] < 100 {
			t.Errorf("the reason %q is tested only %d times", reason, reasons[reason])
		}
	}
}

func TestPromise39(t *testing.T) {
	for _, name := range []string{"RingDrop", "RingAdopt", "RingCloser"} {
		eachStep(t, name, func(ring []impl.Node, id, other int, got []impl.Node, ok bool) {
			was, _ := find(ring, id)
			is, _ := find(got, id)
			if !sameRing(removed(got, id), removed(ring, id)) || is.Id != was.Id || is.Before != was.Before {
				t.Fatalf("%s(%v, %d, %d) = %v changes more than the successors of the node", name, ring, id, other, got)
			}
		})
	}
}

func TestPromise40(t *testing.T) {
	eachStep(t, "RingStabilize", func(ring []impl.Node, id, _ int, got []impl.Node, ok bool) {
		if ok != isLive(ring, id) || !ok && !sameRing(got, ring) {
			t.Fatalf("RingStabilize(%v, %d) = %v, %v", ring, id, got, ok)
		}
		if !ok {
			return
		}
		n, _ := find(got, id)
		first, live := find(got, n.After[0])
		if !live || !isLive(got, first.Before) {
			t.Fatalf("after RingStabilize(%v, %d), the first successor or its predecessor is not live: %v", ring, id, got)
		}
	})
}

func TestPromise41(t *testing.T) {
	nearer := 0
	eachStep(t, "RingStabilize", func(ring []impl.Node, id, _ int, got []impl.Node, ok bool) {
		was, live := find(ring, id)
		if !ok || !live || !isLive(ring, was.After[0]) {
			return
		}
		is, _ := find(got, id)
		before, after := impl.CircleDistance(id, was.After[0]), impl.CircleDistance(id, is.After[0])
		if after > before {
			t.Fatalf("RingStabilize(%v, %d) = %v increases the distance to the first successor from %d to %d", ring, id, got, before, after)
		}
		if after < before {
			nearer++
		}
	})
	if nearer < 50 {
		t.Errorf("only %d nodes found a nearer successor", nearer)
	}
}

func TestPromise42(t *testing.T) {
	eachStep(t, "RingStabilize", func(ring []impl.Node, id, _ int, got []impl.Node, _ bool) {
		if !slices.Equal(walkIds(got), walkIds(ring)) {
			t.Fatalf("RingStabilize(%v, %d) = %v has other nodes", ring, id, got)
		}
		predecessors := 0
		for i, n := range got {
			if n.Id != id && !slices.Equal(n.After, ring[i].After) {
				t.Fatalf("RingStabilize(%v, %d) = %v changes the successors of node %d", ring, id, got, n.Id)
			}
			if n.Before != ring[i].Before {
				predecessors++
			}
		}
		if predecessors > 1 {
			t.Fatalf("RingStabilize(%v, %d) = %v changes %d predecessors", ring, id, got, predecessors)
		}
	})
}

// eachSafe calls check with the rings of the steps and of chapter 3 that are safe.
func eachSafe(t *testing.T, check func(ring []impl.Node)) {
	t.Helper()
	for _, ring := range stepRings() {
		check(ring)
	}
	safeRings(t, check)
}

func TestPromise43(t *testing.T) {
	eachSafe(t, func(ring []impl.Node) {
		want := ring
		for _, id := range impl.RingIds(ring) {
			next, ok := impl.RingStabilize(want, id)
			if !ok {
				t.Fatalf("RingStabilize(%v, %d) fails", want, id)
			}
			want = next
		}
		if got := impl.RingRound(ring); !sameRing(got, want) {
			t.Fatalf("RingRound(%v) = %v, want %v", ring, got, want)
		}
	})
}

func TestPromise44(t *testing.T) {
	newRings(t, func(_ []int, ring []impl.Node) {
		if got := impl.RingRound(ring); !sameRing(got, ring) {
			t.Fatalf("RingRound(%v) = %v changes an ideal ring", ring, got)
		}
	})
	eachSafe(t, func(ring []impl.Node) {
		if got := impl.RingRound(ring); sameRing(got, ring) != impl.RingIdeal(ring) {
			t.Fatalf("RingRound(%v) = %v, where the ring is ideal: %v", ring, got, impl.RingIdeal(ring))
		}
	})
}

// checkCalm requires that RingCalm gives the ideal ring of these nodes.
func checkCalm(t *testing.T, ring []impl.Node, ids []int) {
	t.Helper()
	got := impl.RingCalm(ring)
	if ideal, ok := impl.RingNew(ids); !ok || !sameRing(got, ideal) || !impl.RingIdeal(got) {
		t.Fatalf("RingCalm(%v) = %v, want the ideal ring of %v", ring, got, ids)
	}
}

func TestPromise45(t *testing.T) {
	eachSafe(t, func(ring []impl.Node) { checkCalm(t, ring, walkIds(ring)) })
}

func TestPromise46(t *testing.T) {
	for _, name := range []string{"RingStabilize", "RingAdopt", "RingNotify", "RingCloser"} {
		eachStep(t, name, func(ring []impl.Node, id, other int, got []impl.Node, ok bool) {
			if !ok {
				return
			}
			if before, after := impl.RingCalm(ring), impl.RingCalm(got); len(after) == 0 || !sameRing(before, after) {
				t.Fatalf("RingCalm is %v before and %v after %s(%v, %d, %d)", before, after, name, ring, id, other)
			}
		})
	}
}

func TestPromise47(t *testing.T) {
	eachSafe(t, func(ring []impl.Node) {
		want, got := impl.RingCalm(ring), ring
		for rounds := 0; rounds < 500 && !impl.RingIdeal(got); rounds++ {
			got = impl.RingRound(got)
		}
		if len(got) == 0 || !sameRing(got, want) {
			t.Fatalf("the rounds of %v give %v, and RingCalm %v", ring, got, want)
		}
	})
	for _, ring := range stepRings()[:20] {
		got := ring
		for range 500 {
			got = impl.RingRound(got)
		}
		if want := impl.RingCalm(ring); len(got) == 0 || !sameRing(got, want) {
			t.Fatalf("500 rounds of %v give %v, and RingCalm %v", ring, got, want)
		}
	}
}

func TestPromise48(t *testing.T) {
	eachStep(t, "RingJoin", func(ring []impl.Node, id, _ int, got []impl.Node, ok bool) {
		if ok {
			checkCalm(t, got, with(walkIds(ring), id))
		}
	})
}

func TestPromise49(t *testing.T) {
	eachStep(t, "RingFail", func(ring []impl.Node, id, _ int, got []impl.Node, ok bool) {
		if ok {
			checkCalm(t, got, walkIds(removed(ring, id)))
		}
	})
}

func TestPromise50(t *testing.T) {
	for _, ring := range stepRings() {
		calm := impl.RingCalm(ring)
		if len(calm) != len(ring) {
			t.Fatalf("RingCalm(%v) = %v", ring, calm)
		}
		for i, n := range calm {
			for _, name := range []string{"RingDrop", "RingCloser", "RingNotify"} {
				for _, by := range []int{1, len(calm) - 1} {
					neighbour := calm[(i+by)%len(calm)].Id
					if got, ok := stepNamed(name).do(calm, n.Id, neighbour); ok || !sameRing(got, calm) {
						t.Fatalf("%s(%v, %d, %d) = %v, %v", name, calm, n.Id, neighbour, got, ok)
					}
				}
			}
			for _, name := range []string{"RingAdopt", "RingStabilize"} {
				if got, ok := stepNamed(name).do(calm, n.Id, n.Id); !ok || !sameRing(got, calm) {
					t.Fatalf("%s(%v, %d) = %v, %v", name, calm, n.Id, got, ok)
				}
			}
		}
	}
}
