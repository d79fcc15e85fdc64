package tests

import (
	"math"
	"slices"
	"testing"

	"loop.example/ringoverlay/impl"
)

// eventCase is an event of midRun, and what it changes. Without a change it must return the run as it was.
type eventCase struct {
	name   string
	event  impl.Event
	change func(w *impl.World)
}

func checkEvents(t *testing.T, cases []eventCase) {
	t.Helper()
	for _, x := range cases {
		want := midRun()
		if x.change != nil {
			x.change(&want)
			if sameRun(want, midRun()) {
				t.Fatalf("%s: the case changes nothing", x.name)
			}
		}
		checkDo(t, x.name, midRun(), x.event, want)
	}
}

// setItem, setLease and setRing are changes of one part.
func setItem(key, value int) func(w *impl.World) {
	return func(w *impl.World) { w.Items = modelItems(w.Items, key, value) }
}

func setLeases(list ...impl.Lease) func(w *impl.World) {
	return func(w *impl.World) { w.Leases = list }
}

func setRing(ring []impl.Node) func(w *impl.World) {
	return func(w *impl.World) { w.Ring = ring }
}

// Only the A and B that an event uses count: the others may be any numbers.
func TestRingEventCases(t *testing.T) {
	four := fourNodes()
	checkEvents(t, []eventCase{
		{"join", event(1, 10, 5), setRing(joined(four, node(10, 5, 20, 35)))},
		{"join, C counts for nothing", event(1, 10, 5, -1), setRing(joined(four, node(10, 5, 20, 35)))},
		{"join at the end of the circle", event(1, 63, 50), setRing(joined(four, node(63, 50, 5, 20)))},
		{"join at 0", event(1, 0, 50), setRing(joined(four, node(0, 50, 5, 20)))},
		{"join of a live node", event(1, 20, 5), nil},
		{"join behind a dead node", event(1, 12, 10), nil},
		{"join behind another node", event(1, 10, 20), nil},
		{"join behind itself", event(1, 10, 10), nil},
		{"join of -1", event(1, -1, 50), nil},
		{"join of 64", event(1, 64, 50), nil},
		{"join behind -1", event(1, 2, -1), nil},
		{"join behind 64", event(1, 2, 64), nil},
		{"failure", event(2, 20), setRing(without(four, 1))},
		{"failure, B and C count for nothing", event(2, 20, -1, 64), setRing(without(four, 1))},
		{"failure of a dead node", event(2, 60), nil},
		{"failure of -1", event(2, -1), nil},
		{"failure of 64", event(2, 64), nil},
		{"drop of a live node", event(3, 5), nil},
		{"drop of a dead node", event(3, 60), nil},
		{"adopt that changes nothing", event(4, 5), nil},
		{"adopt of a dead node", event(4, 60), nil},
		{"closer to a live node that is not closer", event(5, 5, 35), nil},
		{"closer to a dead node", event(5, 5, 10), nil},
		{"closer to -1", event(5, 5, -1), nil},
		{"notify of the predecessor", event(6, 5, 50), nil},
		{"notify of a dead node", event(6, 5, 60), nil},
		{"notify of itself", event(6, 5, 5), nil},
		{"notify of 64", event(6, 5, 64), nil},
	})
}

// Events of rings that need repair.
func TestRepairEventCases(t *testing.T) {
	for _, x := range []struct {
		name  string
		ring  []impl.Node
		event impl.Event
		want  []impl.Node
	}{
		{"drop", without(fourNodes(), 1), event(3, 5), []impl.Node{node(5, 50, 35, 36), node(35, 20, 50, 5), node(50, 35, 5, 20)}},
		{"drop, B and C count for nothing", without(fourNodes(), 1), event(3, 5, -1, 99), []impl.Node{node(5, 50, 35, 36), node(35, 20, 50, 5), node(50, 35, 5, 20)}},
		{"adopt", changed(0, node(5, 50, 20, 21)), event(4, 5), fourNodes()},
		{"adopt, B and C count for nothing", changed(0, node(5, 50, 20, 21)), event(4, 5, 64, -1), fourNodes()},
		{"adopt of a node with a dead successor", without(fourNodes(), 1), event(4, 5), nil},
		{"closer", changed(0, node(5, 50, 35, 50)), event(5, 5, 20), fourNodes()},
		{"closer, C counts for nothing", changed(0, node(5, 50, 35, 50)), event(5, 5, 20, -1), fourNodes()},
		{"notify", changed(0, node(5, -1, 20, 35)), event(6, 5, 50), fourNodes()},
		{"notify, C counts for nothing", changed(0, node(5, -1, 20, 35)), event(6, 5, 50, -1), fourNodes()},
		{"notify of a node that is nearer", changed(0, node(5, 35, 20, 35)), event(6, 5, 50), fourNodes()},
		{"notify instead of a dead node", changed(0, node(5, 60, 20, 35)), event(6, 5, 50), fourNodes()},
		{"failure that would not be safe", walkRing([]int{5, 20, 35}), event(2, 20), nil},
		{"join of MaxNodes nodes and one more", mostNodes(), event(1, 60, 57), nil},
		{"join of the last node that there may be", removed(mostNodes(), 9), event(1, 9, 3), nil},
		{"join in place of a failed node", without(fourNodes(), 1), event(1, 20, 5), nil},
		{"join in place of a dropped node", []impl.Node{node(5, 50, 35, 36), node(35, 20, 50, 5), node(50, 35, 5, 20)}, event(1, 20, 5), []impl.Node{node(5, 50, 35, 36), node(20, 5, 35, 36), node(35, 20, 50, 5), node(50, 35, 5, 20)}},
	} {
		w := altered(setRing(x.ring))
		want := cloneRun(w)
		if x.want != nil {
			want.Ring = x.want
		}
		checkDo(t, x.name, w, x.event, want)
	}
}

// All steps of chapter 4 by events, for rings of all kinds.
func TestRingEventsModelled(t *testing.T) {
	changes := [7]int{}
	for i, ring := range stepRings() {
		if i%9 != 0 {
			continue
		}
		w := altered(setRing(ring))
		positions := append(near(ring), -1, 64)
		for kind := 1; kind <= 6; kind++ {
			for j, a := range positions {
				for _, b := range append(walkIds(ring), positions[j], -1, 64) {
					e := event(kind, a, b, 1)
					want := modelDo(w, e)
					if checkDo(t, "ring", w, e, want); !sameRun(want, w) {
						changes[kind]++
					}
				}
			}
		}
	}
	if slices.Min(changes[1:]) < 100 {
		t.Errorf("the events change the ring %v times, which does not test enough", changes)
	}
}

// In midRun the owners are 5 up to key 5, 20 up to 20, none up to 35, 50 up to 50, and 5 up to the end of the circle.
func TestHandCases(t *testing.T) {
	a, b, c, d, e := lease(5, 5, 110), lease(20, 20, 100), lease(30, 35, 99), lease(35, 60, 120), lease(50, 50, 101)
	checkEvents(t, []eventCase{
		{"by the owner", event(7, 50, 45, 20), setLeases(a, b, c, d, lease(45, 20, 120), e)},
		{"by the owner, whose lease expires now", event(7, 20, 10, 50), setLeases(a, lease(10, 50, 120), b, c, d, e)},
		{"by another node", event(7, 5, 45, 20), nil},
		{"by the node that gets it", event(7, 20, 45, 20), nil},
		{"by a node whose lease has expired", event(7, 35, 25, 20), nil},
		{"by another node, of an expired lease", event(7, 5, 25, 20), nil},
		{"by a dead node", event(7, 60, 33, 20), nil},
		{"by a node without an owner", event(7, -1, 33, 20), nil},
		{"by -1, of an expired lease", event(7, -1, 25, 20), nil},
		{"to itself", event(7, 50, 45, 50), setLeases(a, b, c, d, lease(45, 50, 120), e)},
		{"to itself, the whole", event(7, 50, 50, 50), setLeases(a, b, c, d, lease(50, 50, 120))},
		{"to itself, to an earlier time", event(7, 5, 5, 5), setLeases(lease(5, 5, 120), b, c, d, e)},
		{"to a node whose own lease has expired", event(7, 50, 45, 35), setLeases(a, b, c, d, lease(45, 35, 120), e)},
		{"to a dead node", event(7, 50, 45, 60), nil},
		{"to -1", event(7, 50, 45, -1), nil},
		{"to 64", event(7, 50, 45, 64), nil},
		{"to a number that is no member", event(7, 50, 45, 6), nil},
		{"the End", event(7, 50, 50, 20), setLeases(a, b, c, d, lease(50, 20, 120))},
		{"one below the End", event(7, 50, 49, 20), setLeases(a, b, c, d, lease(49, 20, 120), e)},
		{"one above the End", event(7, 50, 51, 20), nil},
		{"one above the End, by its owner", event(7, 5, 51, 20), setLeases(a, b, c, d, e, lease(51, 20, 120))},
		{"the lowest key of a range", event(7, 50, 36, 20), setLeases(a, b, c, d, lease(36, 20, 120), e)},
		{"one below the lowest key of a range", event(7, 50, 35, 20), nil},
		{"key 0", event(7, 5, 0, 20), setLeases(lease(0, 20, 120), a, b, c, d, e)},
		{"key 63", event(7, 5, 63, 20), setLeases(a, b, c, d, e, lease(63, 20, 120))},
		{"the End of the first lease", event(7, 5, 5, 20), setLeases(lease(5, 20, 120), b, c, d, e)},
		{"key -1", event(7, 5, -1, 20), nil},
		{"key 64", event(7, 5, 64, 20), nil},
		{"key -1, by -1", event(7, -1, -1, 20), nil},
		{"key 64, by -1", event(7, -1, 64, 20), nil},
	})
}

// A lease that would end later gets an earlier time when it is handed over.
func TestHandEarlier(t *testing.T) {
	w := altered(func(w *impl.World) { w.Leases = []impl.Lease{lease(20, 20, 999), lease(50, 50, 121)} })
	for _, x := range []struct {
		event impl.Event
		want  []impl.Lease
	}{
		{event(7, 20, 20, 35), []impl.Lease{lease(20, 35, 120), lease(50, 50, 121)}},
		{event(7, 20, 10, 35), []impl.Lease{lease(10, 35, 120), lease(20, 20, 999), lease(50, 50, 121)}},
		{event(7, 50, 50, 50), []impl.Lease{lease(20, 20, 999), lease(50, 50, 120)}},
	} {
		want := cloneRun(w)
		want.Leases = x.want
		checkDo(t, "earlier", w, x.event, want)
	}
}

// With MaxLeases leases only a whole range can be handed over, and with one fewer also a part of one.
func TestHandMaxLeases(t *testing.T) {
	full, fewer := fullRun(), fullRun()
	fewer.Leases = slices.Delete(fewer.Leases, 5, 6)
	for i, l := range full.Leases {
		want := cloneRun(full)
		want.Leases[i] = lease(l.End, 57, 999)
		checkDo(t, "MaxLeases leases, End", full, event(7, l.Owner, l.End, 57), want)
	}
	for key := range impl.Circle {
		if owner := modelKeyOwner(full, key); !hasEnd(full.Leases, key) {
			checkDo(t, "MaxLeases leases, no End", full, event(7, owner, key, 57), full)
		}
		owner, want := modelKeyOwner(fewer, key), cloneRun(fewer)
		want.Leases, _ = modelHand(fewer.Leases, owner, key, 57, 999)
		if checkDo(t, "one fewer", fewer, event(7, owner, key, 57), want); !hasEnd(fewer.Leases, key) && len(want.Leases) != 12 {
			t.Errorf("key %d is handed over to %v", key, want.Leases)
		}
	}
}

// What the owner of a key has handed over it no longer changes, and the other node does.
func TestHandOwner(t *testing.T) {
	ids := []int{5, 20, 35, 50}
	w := played(t, ids, event(11, 20, 7, 42), event(7, 20, 10, 35), event(11, 20, 7, 1), event(12, 20, 7), event(11, 20, 11, 2), event(11, 35, 9, 3), event(11, 35, 7, 4), event(7, 20, 10, 20), event(7, 35, 8, 50), event(11, 35, 8, 5), event(11, 50, 8, 6))
	want := modelRun(ids)
	want.Items = []impl.Item{item(7, 4), item(8, 6), item(9, 3), item(11, 2)}
	want.Leases = []impl.Lease{lease(5, 5, 20), lease(8, 50, 20), lease(10, 35, 20), lease(20, 20, 20), lease(35, 35, 20), lease(50, 50, 20)}
	if !sameRun(w, want) {
		t.Errorf("the run is %v, want %v", w, want)
	}
}

func TestTakeCases(t *testing.T) {
	a, b, d, e := lease(5, 5, 110), lease(20, 20, 100), lease(35, 60, 120), lease(50, 50, 101)
	checkEvents(t, []eventCase{
		{"expired by one", event(8, 50, 25), setLeases(a, b, lease(30, 50, 120), d, e)},
		{"expired by one, C counts for nothing", event(8, 50, 25, -1), setLeases(a, b, lease(30, 50, 120), d, e)},
		{"expired by one, by its own node", event(8, 35, 25), setLeases(a, b, lease(30, 35, 120), d, e)},
		{"expired by one, the End", event(8, 5, 30), setLeases(a, b, lease(30, 5, 120), d, e)},
		{"expired by one, the lowest key", event(8, 5, 21), setLeases(a, b, lease(30, 5, 120), d, e)},
		{"expires now", event(8, 50, 20), nil},
		{"expires now, the key below", event(8, 50, 19), nil},
		{"expires one later", event(8, 5, 50), nil},
		{"one above the End", event(8, 5, 31), nil},
		{"of a dead node, not expired", event(8, 5, 35), nil},
		{"of a dead node, not expired, by this node", event(8, 60, 35), nil},
		{"by a dead node", event(8, 60, 25), nil},
		{"by a number that is no member", event(8, 25, 25), nil},
		{"by -1", event(8, -1, 25), nil},
		{"by 64", event(8, 64, 25), nil},
		{"key -1", event(8, 5, -1), nil},
		{"key 64", event(8, 5, 64), nil},
		{"key 0", event(8, 20, 0), nil},
		{"key 63", event(8, 20, 63), nil},
	})
}

// Each lease of a run has expired, also those of dead nodes and of the node that takes over; each key belongs to one of them.
func TestTakeExpired(t *testing.T) {
	w := altered(func(w *impl.World) { w.Now = 121 })
	for key := range impl.Circle {
		for _, id := range []int{5, 20, 35, 50} {
			want, i := cloneRun(w), walkLease(w.Leases, key)
			want.Leases[i] = lease(w.Leases[i].End, id, 141)
			checkDo(t, "expired", w, event(8, id, key), want)
		}
		checkDo(t, "expired", w, event(8, 60, key), w)
	}
	full := fullRun()
	full.Leases[3].Until = 998
	want := cloneRun(full)
	want.Leases[3] = lease(11, 57, 999)
	checkDo(t, "MaxLeases leases", full, event(8, 57, 10), want)
}

func TestRenewCases(t *testing.T) {
	a, b, c, d, e := lease(5, 5, 110), lease(20, 20, 100), lease(30, 35, 99), lease(35, 60, 120), lease(50, 50, 101)
	checkEvents(t, []eventCase{
		{"one lease", event(9, 5), setLeases(lease(5, 5, 120), b, c, d, e)},
		{"one lease, B and C count for nothing", event(9, 5, -1, 64), setLeases(lease(5, 5, 120), b, c, d, e)},
		{"expires now", event(9, 20), setLeases(a, lease(20, 20, 120), c, d, e)},
		{"expired by one", event(9, 35), nil},
		{"expires one later", event(9, 50), setLeases(a, b, c, d, lease(50, 50, 120))},
		{"dead node", event(9, 60), nil},
		{"no member", event(9, 30), nil},
		{"-1", event(9, -1), nil},
		{"64", event(9, 64), nil},
	})
	several := func(untils ...int) impl.World {
		return altered(setLeases(leases([]int{0, 7, 20, 30, 35, 63}, []int{20, 20, 50, 20}, untils)...))
	}
	checkDo(t, "several leases", several(99, 100, 100, 101, 119, 120), event(9, 20), several(99, 120, 100, 120, 120, 120))
	checkDo(t, "several leases, later ones", several(98, 119, 101, 120, 121, 999), event(9, 20), several(98, 120, 101, 120, 121, 999))
	checkDo(t, "several leases of another node", several(99, 100, 100, 101, 119, 120), event(9, 50), several(99, 100, 120, 101, 119, 120))
	checkDo(t, "no lease", several(99, 100, 100, 101, 119, 120), event(9, 5), several(99, 100, 100, 101, 119, 120))
	checkDo(t, "no lease, and none of a member", altered(setLeases(lease(20, 60, 100))), event(9, 5), altered(setLeases(lease(20, 60, 100))))
}

// The time of a lease that is given or renewed is Now plus Term, but not more than MaxTime.
func TestLeaseEventTimes(t *testing.T) {
	for _, x := range []struct{ now, until int }{{0, 20}, {1, 21}, {100, 120}, {977, 997}, {978, 998}, {979, 999}, {980, 999}, {981, 999}, {998, 999}, {999, 999}} {
		w := impl.World{Now: x.now, Ring: fourNodes(), Leases: []impl.Lease{lease(10, 5, x.now), lease(20, 20, max(x.now-1, 0)), lease(50, 50, x.now)}}
		want := cloneRun(w)
		want.Leases = slices.Insert(want.Leases, 0, lease(3, 20, x.until))
		checkDo(t, "part", w, event(7, 5, 3, 20), want)
		want = cloneRun(w)
		want.Leases[0] = lease(10, 20, x.until)
		checkDo(t, "whole", w, event(7, 5, 10, 20), want)
		want = cloneRun(w)
		want.Leases[2].Until = x.until
		checkDo(t, "renewed", w, event(9, 50), want)
		want = cloneRun(w)
		if x.now > 0 {
			want.Leases[1] = lease(20, 50, x.until)
		}
		checkDo(t, "taken over", w, event(8, 50, 15), want)
	}
}

func TestTickCases(t *testing.T) {
	for _, x := range []struct{ now, want int }{{0, 1}, {1, 2}, {19, 20}, {20, 21}, {100, 101}, {997, 998}, {998, 999}, {999, 999}} {
		for _, numbers := range [][]int{nil, {5}, {60}, {-1, -1, -1}, {64, 64, 100}, {math.MinInt, math.MaxInt, math.MinInt}} {
			w, want := altered(func(w *impl.World) { w.Now = x.now }), altered(func(w *impl.World) { w.Now = x.want })
			checkDo(t, "tick", w, event(10, numbers...), want)
		}
	}
}

func TestPutCases(t *testing.T) {
	checkEvents(t, []eventCase{
		{"below the others", event(11, 5, 0, 7), setItem(0, 7)},
		{"one below the lowest one", event(11, 5, 2, 7), setItem(2, 7)},
		{"between the others", event(11, 20, 12, 7), setItem(12, 7)},
		{"next to another one", event(11, 20, 8, 7), setItem(8, 7)},
		{"above the others", event(11, 5, 53, 7), setItem(53, 7)},
		{"the highest key", event(11, 5, 63, 7), setItem(63, 7)},
		{"in place of one", event(11, 20, 7, 9), setItem(7, 9)},
		{"in place of the lowest one", event(11, 5, 3, 9), setItem(3, 9)},
		{"in place of the highest one", event(11, 5, 52, 9), setItem(52, 9)},
		{"in place of one that is not in Since", event(11, 20, 18, 9), setItem(18, 9)},
		{"in place of one, the same value", event(11, 20, 7, 42), nil},
		{"new, passed by the scan", event(11, 20, 20, 9), setItem(20, 9)},
		{"new, not passed by the scan", event(11, 50, 40, 9), setItem(40, 9)},
		{"value 0", event(11, 20, 12, 0), setItem(12, 0)},
		{"value 0 in place of one", event(11, 20, 7, 0), setItem(7, 0)},
		{"value 1", event(11, 20, 12, 1), setItem(12, 1)},
		{"value 98", event(11, 20, 12, 98), setItem(12, 98)},
		{"value 99", event(11, 20, 12, 99), setItem(12, 99)},
		{"value 99 in place of one", event(11, 20, 7, 99), setItem(7, 99)},
		{"value 100", event(11, 20, 12, 100), nil},
		{"value 100 in place of one", event(11, 20, 7, 100), nil},
		{"value -1", event(11, 20, 12, -1), nil},
		{"value -1 in place of one", event(11, 20, 7, -1), nil},
		{"extreme values", event(11, 20, 7, math.MaxInt), nil},
		{"extreme values", event(11, 20, 7, math.MinInt), nil},
		{"the lease expires now", event(11, 20, 20, 1), setItem(20, 1)},
		{"the lease has expired by one", event(11, 35, 25, 1), nil},
		{"the lease has expired by one, by another node", event(11, 5, 25, 1), nil},
		{"the lease has expired by one, by -1", event(11, -1, 25, 1), nil},
		{"by another node", event(11, 5, 7, 1), nil},
		{"by the next node", event(11, 35, 20, 1), nil},
		{"by the node before", event(11, 20, 21, 1), nil},
		{"by a dead node, its lease", event(11, 60, 33, 1), nil},
		{"by a live node, the lease of a dead one", event(11, 5, 33, 1), nil},
		{"by -1, the lease of a dead node", event(11, -1, 33, 1), nil},
		{"by a number that is no member", event(11, 7, 7, 1), nil},
		{"by -1", event(11, -1, 7, 1), nil},
		{"by 64", event(11, 64, 7, 1), nil},
		{"key -1", event(11, 5, -1, 1), nil},
		{"key 64", event(11, 5, 64, 1), nil},
		{"key -1, by -1", event(11, -1, -1, 1), nil},
		{"key 64, by -1", event(11, -1, 64, 1), nil},
		{"extreme keys, by -1", event(11, -1, math.MinInt, 1), nil},
		{"extreme keys, by -1", event(11, -1, math.MaxInt, 1), nil},
	})
}

// There may be as many items as there are positions.
func TestPutAll(t *testing.T) {
	w := modelRun([]int{5, 20, 35})
	for i := range impl.Circle {
		key := i * 37 % 64
		w = impl.WorldDo(w, event(11, modelKeyOwner(w, key), key, key))
		if len(w.Items) != i+1 {
			t.Fatalf("after %d keys the items are %v", i+1, w.Items)
		}
	}
	if !slices.Equal(w.Items, fullRun().Items) {
		t.Errorf("the items are %v", w.Items)
	}
	full := fullRun()
	for key := range impl.Circle {
		want := cloneRun(full)
		want.Items[key].Value = 99
		checkDo(t, "all keys", full, event(11, modelKeyOwner(full, key), key, 99), want)
		want.Items, want.Since = slices.Delete(want.Items, key, key+1), withoutKey(allKeys(), key)
		checkDo(t, "all keys", full, event(12, modelKeyOwner(full, key), key), want)
	}
}

func TestEraseCases(t *testing.T) {
	erased := func(key int) func(w *impl.World) {
		return func(w *impl.World) { w.Items, w.Since = modelItems(w.Items, key, -1), withoutKey(w.Since, key) }
	}
	checkEvents(t, []eventCase{
		{"in Since", event(12, 20, 7), erased(7)},
		{"in Since, C counts for nothing", event(12, 20, 7, -1), erased(7)},
		{"the lowest one", event(12, 5, 3), erased(3)},
		{"the highest one, not in Since", event(12, 5, 52), erased(52)},
		{"not in Since, passed by the scan", event(12, 20, 18), erased(18)},
		{"not there", event(12, 20, 12), nil},
		{"not there, between others", event(12, 20, 8), nil},
		{"not there, below the others", event(12, 5, 0), nil},
		{"not there, above the others", event(12, 5, 63), nil},
		{"the lease has expired by one", event(12, 35, 25), nil},
		{"the lease has expired by one, by -1", event(12, -1, 25), nil},
		{"by another node", event(12, 5, 7), nil},
		{"by a dead node", event(12, 60, 7), nil},
		{"by a number that is no member", event(12, 7, 7), nil},
		{"by -1", event(12, -1, 7), nil},
		{"by 64", event(12, 64, 7), nil},
		{"key -1", event(12, 5, -1), nil},
		{"key 64", event(12, 5, 64), nil},
		{"key -1, by -1", event(12, -1, -1), nil},
	})
	w := altered(func(w *impl.World) { w.Now = 99 })
	want := altered(func(w *impl.World) { w.Now, w.Since = 99, []int{3, 7}; w.Items = slices.Delete(w.Items, 3, 4) })
	checkDo(t, "the lease expires now", w, event(12, 35, 25), want)
	w = altered(func(w *impl.World) { w.Items, w.Scan, w.Since = w.Items[:1], scan(21), nil })
	want = altered(func(w *impl.World) { w.Items, w.Scan, w.Since = nil, scan(21), nil })
	checkDo(t, "the only one", w, event(12, 5, 3), want)
}

// What is erased between the steps of a scan stays told, is no longer there since it began, and does not come back into Since when it is stored again.
func TestEraseDuringScan(t *testing.T) {
	ids := []int{5, 20, 35, 50}
	w := played(t, ids, event(11, 5, 3, 1), event(11, 20, 15, 2), event(11, 50, 45, 3), event(13), event(14))
	for i, x := range []struct {
		event impl.Event
		items []impl.Item
		scan  impl.Scan
		since []int
	}{
		{event(12, 5, 3), []impl.Item{item(15, 2), item(45, 3)}, scan(6, 3), []int{15, 45}},
		{event(11, 5, 3, 9), []impl.Item{item(3, 9), item(15, 2), item(45, 3)}, scan(6, 3), []int{15, 45}},
		{event(12, 20, 15), []impl.Item{item(3, 9), item(45, 3)}, scan(6, 3), []int{45}},
		{event(11, 20, 15, 8), []impl.Item{item(3, 9), item(15, 8), item(45, 3)}, scan(6, 3), []int{45}},
		{event(14), []impl.Item{item(3, 9), item(15, 8), item(45, 3)}, scan(21, 3, 15), []int{45}},
		{event(12, 50, 45), []impl.Item{item(3, 9), item(15, 8)}, scan(21, 3, 15), nil},
		{event(14), []impl.Item{item(3, 9), item(15, 8)}, scan(36, 3, 15), nil},
		{event(14), []impl.Item{item(3, 9), item(15, 8)}, scan(51, 3, 15), nil},
		{event(11, 50, 45, 7), []impl.Item{item(3, 9), item(15, 8), item(45, 7)}, scan(51, 3, 15), nil},
		{event(14), []impl.Item{item(3, 9), item(15, 8), item(45, 7)}, scan(64, 3, 15), nil},
		{event(12, 5, 3), []impl.Item{item(15, 8), item(45, 7)}, scan(64, 3, 15), nil},
		{event(14), []impl.Item{item(15, 8), item(45, 7)}, scan(64, 3, 15), nil},
		{event(13), []impl.Item{item(15, 8), item(45, 7)}, impl.Scan{}, []int{15, 45}},
	} {
		want := modelRun(ids)
		want.Items, want.Scan, want.Since = x.items, x.scan, x.since
		if w = impl.WorldDo(w, x.event); !sameRun(w, want) {
			t.Fatalf("after event %d, %v, the run is %v, want %v", i, x.event, w, want)
		}
	}
}

// A scan begins with all keys, whether or not one is under way or complete, and whatever the numbers of the event are.
func TestBeginCases(t *testing.T) {
	runs := append(goodRuns(), altered(func(w *impl.World) { w.Items, w.Since = nil, nil }), altered(func(w *impl.World) { w.Scan, w.Since = impl.Scan{}, nil }), altered(func(w *impl.World) { w.Scan, w.Since = scan(64), nil }), altered(func(w *impl.World) { w.Now = 999 }))
	for _, w := range runs {
		for _, numbers := range [][]int{nil, {5}, {60}, {-1, -1, -1}, {64, 64, 100}, {math.MinInt, math.MaxInt, math.MinInt}} {
			want := cloneRun(w)
			want.Scan, want.Since = impl.Scan{}, itemKeys(w.Items)
			checkDo(t, "begin", w, event(13, numbers...), want)
		}
	}
}

func TestScanEventCases(t *testing.T) {
	done := scan(64, 3, 7, 25, 30, 52)
	for _, x := range []struct {
		name       string
		scan, want impl.Scan
	}{
		{"new scan", impl.Scan{}, scan(6, 3)},
		{"from within a range", scan(2), scan(6, 3)},
		{"the lease expires now", scan(6, 3), scan(21, 3, 7, 18)},
		{"the lease expires now, the End", scan(20, 3, 7), scan(21, 3, 7)},
		{"the lease has expired by one", scan(21, 3, 7), scan(21, 3, 7)},
		{"the lease has expired by one, the End", scan(30, 3, 25), scan(30, 3, 25)},
		{"the node is dead", scan(31, 3, 25), scan(31, 3, 25)},
		{"the node is dead, the End", scan(35), scan(35)},
		{"behind it", scan(36, 25), scan(51, 25)},
		{"the last step", scan(51, 25), scan(64, 25, 52)},
		{"the last position", scan(63, 25), scan(64, 25)},
		{"told keys that are not there", scan(51, 0, 1, 2), scan(64, 0, 1, 2, 52)},
		{"complete", done, done},
		{"complete, none told", scan(64), scan(64)},
	} {
		for _, numbers := range [][]int{nil, {5}, {60}, {-1, -1, -1}, {64, 64, 100}, {math.MinInt, math.MaxInt, math.MinInt}} {
			w := altered(func(w *impl.World) { w.Scan, w.Since = x.scan, nil })
			want := altered(func(w *impl.World) { w.Scan, w.Since = x.want, nil })
			checkDo(t, x.name, w, event(14, numbers...), want)
		}
	}
}

// The only lease has expired or is that of a dead node, so that no scan goes on; it does when the lease is taken over.
func TestScanEventNoOwner(t *testing.T) {
	for next := range impl.Circle {
		for _, l := range []impl.Lease{lease(20, 20, 99), lease(20, 60, 110), lease(20, 60, 99)} {
			w := impl.World{Now: 100, Ring: fourNodes(), Leases: []impl.Lease{l}, Items: midRun().Items, Scan: scan(next)}
			checkDo(t, "no owner", w, event(14), w)
			if l.Until < 100 {
				w = impl.WorldDo(w, event(8, 35, 0))
				want := cloneRun(w)
				want.Scan, _ = modelScanStep(w.Leases, itemKeys(w.Items), w.Scan)
				checkDo(t, "taken over", w, event(14), want)
			}
		}
	}
}

// A node fails during a scan; the scan waits until its lease has expired and is taken over, and the keys are told.
func TestScanAfterFailure(t *testing.T) {
	ids := []int{5, 20, 35, 50}
	events := []impl.Event{event(11, 20, 15, 2), event(11, 35, 30, 4), event(13), event(14), event(14), event(2, 35), event(14), event(8, 50, 30), event(14)}
	w := played(t, ids, events...)
	if want := scan(21, 15); !sameScan(w.Scan, want) || impl.WorldOwner(w, 21) != -1 {
		t.Fatalf("after the failure %v, want the scan %v", w, want)
	}
	events = append(events, slices.Repeat([]impl.Event{event(10)}, 20)...)
	w = played(t, ids, append(events, event(8, 50, 30), event(14))...)
	if want := scan(21, 15); !sameScan(w.Scan, want) || impl.WorldOwner(w, 21) != -1 {
		t.Fatalf("when the lease expires %v, want the scan %v", w, want)
	}
	w = played(t, ids, append(events, event(10), event(8, 50, 30), event(14), event(8, 50, 36), event(14), event(14))...)
	if want := scan(51, 15, 30); !sameScan(w.Scan, want) || impl.WorldOwner(w, 30) != 50 || !slices.Equal(w.Since, []int{15, 30}) {
		t.Fatalf("after the lease is taken over %v, want the scan %v", w, want)
	}
}

// Ranges move between the steps of a scan, ahead of it, behind it and around its next position.
func TestScanWhileRangesMove(t *testing.T) {
	ids := []int{5, 20, 35, 50}
	w := played(t, ids, event(11, 5, 3, 1), event(11, 20, 15, 2), event(11, 35, 30, 3), event(11, 50, 45, 4), event(11, 5, 60, 5), event(13))
	for i, x := range []struct {
		event impl.Event
		scan  impl.Scan
	}{
		{event(7, 5, 3, 20), scan(0)}, {event(14), scan(4, 3)}, {event(7, 5, 5, 50), scan(4, 3)}, {event(14), scan(6, 3)},
		{event(7, 20, 10, 35), scan(6, 3)}, {event(7, 20, 15, 50), scan(6, 3)}, {event(14), scan(11, 3)}, {event(14), scan(16, 3, 15)},
		{event(7, 20, 20, 5), scan(16, 3, 15)}, {event(7, 35, 35, 5), scan(16, 3, 15)}, {event(14), scan(21, 3, 15)}, {event(7, 50, 15, 5), scan(21, 3, 15)},
		{event(7, 5, 25, 20), scan(21, 3, 15)}, {event(7, 20, 23, 50), scan(21, 3, 15)}, {event(14), scan(24, 3, 15)}, {event(14), scan(26, 3, 15)},
		{event(14), scan(36, 3, 15, 30)}, {event(7, 50, 44, 50), scan(36, 3, 15, 30)}, {event(14), scan(45, 3, 15, 30)}, {event(14), scan(51, 3, 15, 30, 45)},
		{event(7, 20, 59, 35), scan(51, 3, 15, 30, 45)}, {event(14), scan(60, 3, 15, 30, 45)}, {event(14), scan(64, 3, 15, 30, 45, 60)},
	} {
		if w = impl.WorldDo(w, x.event); !sameScan(w.Scan, x.scan) || !slices.Equal(w.Since, []int{3, 15, 30, 45, 60}) {
			t.Fatalf("after event %d, %v, the run is %v, want the scan %v", i, x.event, w, x.scan)
		}
	}
}

// The kinds that are none, with the numbers of events that would change something.
func TestUnknownEvents(t *testing.T) {
	for _, kind := range []int{0, -1, -2, -7, -10, -14, 15, 16, 64, 99, math.MinInt, math.MinInt + 10, math.MaxInt, 1<<32 + 10, 1<<16 + 10, 1<<8 + 10} {
		for _, numbers := range [][]int{nil, {10, 5}, {20}, {50, 45, 20}, {50, 25}, {5}, {20, 7, 9}, {20, 12, 9}, {5, 3}, {-1, -1, -1}} {
			for _, w := range goodRuns() {
				checkDo(t, "unknown", w, event(kind, numbers...), w)
			}
		}
	}
}

// eventNumbers are live nodes, dead ones, ends of leases and the positions around them, and the nearest and the farthest numbers that are no positions.
func eventNumbers() []int {
	return []int{math.MinInt, -2, -1, 0, 1, 3, 4, 5, 6, 7, 18, 19, 20, 21, 25, 29, 30, 31, 34, 35, 36, 45, 49, 50, 51, 60, 62, 63, 64, 65, math.MaxInt}
}

// Every kind of event with numbers inside and outside their ranges.
func TestEventsModelled(t *testing.T) {
	late := altered(func(w *impl.World) { w.Now, w.Leases[2].Until, w.Leases[4].Until = 999, 998, 999 })
	owners := []int{math.MinInt, -1, 0, 5, 6, 20, 35, 50, 60, 63, 64, math.MaxInt}
	others := []int{math.MinInt, -1, 0, 1, 5, 20, 35, 50, 60, 63, 64, 98, 99, 100, math.MaxInt}
	for _, w := range []impl.World{midRun(), late, altered(setRing(changed(1, node(20, -1, 35, 36)))), modelRun([]int{5, 20, 35, 50})} {
		for _, kind := range allKinds() {
			changes := 0
			for _, a := range owners {
				for _, b := range eventNumbers() {
					for _, c := range others {
						e := event(kind, a, b, c)
						want := modelDo(w, e)
						if checkDo(t, "modelled", w, e, want); !sameRun(want, w) {
							changes++
						}
					}
				}
			}
			if (kind < 1 || kind > 14) && changes > 0 {
				t.Errorf("%d events of kind %d change %v", changes, kind, w)
			}
		}
	}
}

func TestEventsOfSomeRuns(t *testing.T) {
	eachDo(t, allKinds(), func(w impl.World, e impl.Event, got impl.World) {
		if want := modelDo(w, e); !sameRun(got, want) {
			t.Fatalf("WorldDo(%v, %v) = %v, want %v", w, e, got, want)
		}
	})
}

func TestEventsOfPlays(t *testing.T) {
	changes := 0
	eachPlayed(t, func(p play, number int, w impl.World, e impl.Event, got impl.World) {
		want := modelDo(w, e)
		if !sameRun(got, want) {
			t.Fatalf("event %d of %v: WorldDo(%v, %v) = %v, want %v", number, p, w, e, got, want)
		}
		if !sameRun(got, w) {
			changes++
		}
	})
	if changes < 10000 {
		t.Errorf("only %d events change something", changes)
	}
}
