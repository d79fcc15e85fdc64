package tests

import (
	"math"
	"slices"
	"testing"

	"loop.example/ringoverlay/impl"
)

// midRun is a run at time 100, which the cases change. The lease of node 20 expires now, that of node 35 has expired by one, that of node 60 is one of a dead node, and that of node 50 ends one later. Key 18 came after the scan had passed it.
func midRun() impl.World {
	return impl.World{
		Now:    100,
		Ring:   fourNodes(),
		Leases: []impl.Lease{lease(5, 5, 110), lease(20, 20, 100), lease(30, 35, 99), lease(35, 60, 120), lease(50, 50, 101)},
		Items:  []impl.Item{item(3, 1), item(7, 42), item(18, 0), item(25, 99), item(52, 5)},
		Scan:   scan(21, 3, 7),
		Since:  []int{3, 7, 25},
	}
}

// altered returns midRun with a change.
func altered(change func(w *impl.World)) impl.World {
	w := midRun()
	change(&w)
	return w
}

// fullRun has MaxNodes nodes, MaxLeases leases, none of which has expired, and all keys, of which the first 30 were told.
func fullRun() impl.World {
	w := impl.World{Now: impl.MaxTime, Ring: mostNodes(), Leases: leases(mostEnds(), walkIds(mostNodes()), []int{impl.MaxTime}), Scan: scan(30, allKeys()[:30]...), Since: allKeys()}
	for key := range impl.Circle {
		w.Items = append(w.Items, item(key, key))
	}
	return w
}

// goodRuns are runs of which one part is made invalid. All of their Since can be replaced by an empty list.
func goodRuns() []impl.World {
	done := midRun()
	done.Scan, done.Since = scan(64, 3, 7, 25, 30, 52), []int{3, 7, 25, 52}
	return []impl.World{modelRun([]int{5, 20, 35}), modelRun(walkIds(mostNodes())), midRun(), fullRun(), done}
}

func TestOverlayConstants(t *testing.T) {
	kinds := []int{impl.EvJoin, impl.EvFail, impl.EvDrop, impl.EvAdopt, impl.EvCloser, impl.EvNotify, impl.EvHand, impl.EvTake, impl.EvRenew, impl.EvTick, impl.EvPut, impl.EvErase, impl.EvBegin, impl.EvScan}
	if !slices.Equal(kinds, allKeys()[1:15]) || impl.Term != 20 || impl.MaxPlay != 80 {
		t.Errorf("kinds %v, Term %d, MaxPlay %d", kinds, impl.Term, impl.MaxPlay)
	}
}

func TestWorldNewCases(t *testing.T) {
	for _, x := range []struct {
		ids    []int
		leases []impl.Lease
	}{
		{[]int{5, 20, 35}, []impl.Lease{lease(5, 5, 20), lease(20, 20, 20), lease(35, 35, 20)}},
		{[]int{5, 20, 35, 50}, []impl.Lease{lease(5, 5, 20), lease(20, 20, 20), lease(35, 35, 20), lease(50, 50, 20)}},
		{[]int{0, 1, 63}, []impl.Lease{lease(0, 0, 20), lease(1, 1, 20), lease(63, 63, 20)}},
		{[]int{0, 1, 2, 3, 4, 5, 6, 7, 8, 63}, []impl.Lease{lease(0, 0, 20), lease(1, 1, 20), lease(2, 2, 20), lease(3, 3, 20), lease(4, 4, 20), lease(5, 5, 20), lease(6, 6, 20), lease(7, 7, 20), lease(8, 8, 20), lease(63, 63, 20)}},
	} {
		want := impl.World{Ring: walkRing(x.ids), Leases: x.leases}
		if got, ok := impl.WorldNew(x.ids); !ok || !sameRun(got, want) {
			t.Errorf("WorldNew(%v) = %v, %v, want %v", x.ids, got, ok, want)
		}
	}
}

func TestWorldNewModelled(t *testing.T) {
	for _, ids := range someSets() {
		got, ok := impl.WorldNew(ids)
		if len(ids) < 3 {
			if ok || !sameRun(got, impl.World{}) {
				t.Fatalf("WorldNew(%v) = %v, %v, want the zero value and false", ids, got, ok)
			}
		} else if !ok || !sameRun(got, modelRun(ids)) {
			t.Fatalf("WorldNew(%v) = %v, %v, want %v", ids, got, ok, modelRun(ids))
		}
	}
}

// notRingSets are lists that WorldNew refuses: they are not sets of nodes, or have fewer than Base nodes.
func notRingSets() map[string][]int {
	lists := badSets()
	lists["nil"], lists["empty"] = nil, []int{}
	lists["one node"], lists["two nodes"] = []int{5}, []int{5, 20}
	lists["two nodes at the ends"] = []int{0, 63}
	lists["one more than MaxNodes"] = append(walkIds(mostNodes()), 60)
	lists["three, first repeated"], lists["three, last repeated"] = []int{5, 5, 20}, []int{5, 20, 20}
	lists["three, first descends"], lists["three, last descends"] = []int{20, 5, 35}, []int{5, 35, 20}
	lists["three, -1 first"], lists["three, Circle last"] = []int{-1, 5, 20}, []int{5, 20, 64}
	return lists
}

func TestWorldNewInvalid(t *testing.T) {
	for name, ids := range notRingSets() {
		if got, ok := impl.WorldNew(ids); ok || !sameRun(got, impl.World{}) {
			t.Errorf("%s: WorldNew(%v) = %v, %v, want the zero value and false", name, ids, got, ok)
		}
	}
}

// checkNoRun requires of each function what it returns for an invalid run.
func checkNoRun(t *testing.T, name string, w impl.World) {
	t.Helper()
	if impl.WorldValid(w) {
		t.Fatalf("%s: WorldValid(%v) holds", name, w)
	}
	for _, key := range []int{-1, 0, 5, 21, 63, 64} {
		if got := impl.WorldOwner(w, key); got != -1 {
			t.Fatalf("%s: WorldOwner(%v, %d) = %d, want -1", name, w, key, got)
		}
	}
	for _, e := range []impl.Event{{}, event(1, 7, 5), event(7, 5, 3, 20), event(8, 5, 25), event(9, 5), event(10), event(11, 5, 3, 9), event(12, 5, 3), event(13), event(14), event(15, 5, 5, 5)} {
		if got := impl.WorldDo(w, e); !sameRun(got, impl.World{}) {
			t.Fatalf("%s: WorldDo(%v, %v) = %v, want the zero value", name, w, e, got)
		}
	}
	if got := impl.WorldCalm(w); !sameRun(got, impl.World{}) {
		t.Fatalf("%s: WorldCalm(%v) = %v, want the zero value", name, w, got)
	}
}

func checkRun(t *testing.T, name string, w impl.World) {
	t.Helper()
	if !impl.WorldValid(w) {
		t.Fatalf("%s: WorldValid(%v) does not hold", name, w)
	}
}

func TestWorldValidCases(t *testing.T) {
	for _, w := range goodRuns() {
		checkRun(t, "good", w)
		w.Since = nil
		checkRun(t, "no Since", w)
	}
	checkNoRun(t, "zero value", impl.World{})
	for i, w := range someRuns() {
		if checkRun(t, "some", w); !modelRunValid(w) {
			t.Fatalf("run %d is invalid by the model: %v", i, w)
		}
	}
}

func TestWorldValidNow(t *testing.T) {
	for _, w := range goodRuns() {
		for _, now := range []int{0, 1, 500, 998, 999} {
			w.Now = now
			checkRun(t, "Now", w)
		}
		for _, now := range notTimes {
			w.Now = now
			checkNoRun(t, "Now", w)
		}
	}
}

func TestWorldValidRing(t *testing.T) {
	for _, w := range goodRuns() {
		for _, ring := range [][]impl.Node{walkRing([]int{0, 1, 2}), fourNodes(), mostNodes(), changed(0, node(5, -1, 10, 20)), changed(1, node(20, 5, 35, 63))} {
			w.Ring = ring
			checkRun(t, "Ring", w)
		}
		for name, ring := range badRings() {
			w.Ring = ring
			checkNoRun(t, "Ring, "+name, w)
		}
		for _, ring := range [][]impl.Node{nil, {}, walkRing([]int{5}), walkRing([]int{5, 20}), changed(0, node(5, 50, 10, 15)), changed(0, node(5, 50, 50, 20)), without(walkRing([]int{5, 20, 35}), 2)} {
			w.Ring = ring
			checkNoRun(t, "Ring is not safe", w)
		}
	}
}

// Rings of which many are not safe, and some that are hardly so.
func TestWorldValidRings(t *testing.T) {
	valid, count := 0, 0
	check := func(ring []impl.Node) {
		w := midRun()
		w.Ring = ring
		got := impl.WorldValid(w)
		if got != walkSafe(ring) {
			t.Fatalf("WorldValid(%v) = %v", w, got)
		}
		count++
		if got {
			valid++
		}
	}
	smallRings([]int{5, 20, 35}, []int{5, 10, 20, 35}, check)
	for _, ring := range damaged(mostNodes()) {
		check(ring)
	}
	if valid < 50 || count < 2*valid {
		t.Errorf("%d runs, of which %d are valid, do not test enough", count, valid)
	}
}

func TestWorldValidLeases(t *testing.T) {
	for _, w := range goodRuns() {
		for _, list := range goodLeases() {
			w.Leases = list
			checkRun(t, "Leases", w)
		}
		eachBadLeases(func(name string, list []impl.Lease) {
			w.Leases = list
			checkNoRun(t, "Leases, "+name, w)
		})
	}
}

func TestWorldValidItems(t *testing.T) {
	for _, items := range [][]impl.Item{nil, {}, {item(0, 0)}, {item(63, 99)}, {item(0, 99), item(63, 0)}, {item(0, 1), item(1, 0), item(62, 0), item(63, 0)}, {item(20, 5), item(21, 5)}, fullRun().Items} {
		for _, w := range goodRuns() {
			w.Items, w.Since = items, nil
			checkRun(t, "Items", w)
		}
	}
	for name, items := range map[string][]impl.Item{
		"descending":             {item(7, 1), item(3, 1)},
		"first descends":         {item(7, 1), item(3, 1), item(9, 1)},
		"last descends":          {item(3, 1), item(9, 1), item(7, 1)},
		"repeated":               {item(3, 1), item(3, 1)},
		"repeated, other value":  {item(3, 1), item(3, 2)},
		"0 repeated":             {item(0, 0), item(0, 0)},
		"first repeated":         {item(3, 1), item(3, 1), item(9, 1)},
		"last repeated":          {item(3, 1), item(9, 1), item(9, 1)},
		"repeated later":         {item(3, 1), item(9, 1), item(3, 1)},
		"all, last repeated":     append(fullRun().Items, item(63, 63)),
		"all, one more":          append(fullRun().Items, item(64, 1)),
		"all, one too low":       append([]impl.Item{item(-1, 1)}, fullRun().Items...),
		"much too many":          make([]impl.Item, 1000),
		"extreme":                {item(math.MinInt, math.MinInt), item(math.MaxInt, math.MaxInt)},
		"extreme keys":           {item(math.MinInt, 1), item(math.MaxInt, 1)},
		"value and key exchange": {item(3, 1), item(99, 5)},
	} {
		for _, w := range goodRuns() {
			w.Items, w.Since = items, nil
			checkNoRun(t, "Items, "+name, w)
		}
	}
}

// One key or one value is out of range, at each place.
func TestWorldValidItemRanges(t *testing.T) {
	for _, w := range goodRuns() {
		good, since := w.Items, w.Since
		for i, x := range good {
			w.Since = nil
			for _, key := range notPositions {
				w.Items = slices.Replace(slices.Clone(good), i, i+1, item(key, x.Value))
				checkNoRun(t, "key", w)
			}
			w.Since = since
			for _, value := range notValues {
				w.Items = slices.Replace(slices.Clone(good), i, i+1, item(x.Key, value))
				checkNoRun(t, "value", w)
			}
			for _, value := range []int{0, 1, 98, 99} {
				w.Items = slices.Replace(slices.Clone(good), i, i+1, item(x.Key, value))
				checkRun(t, "value", w)
			}
		}
	}
}

func TestWorldValidScan(t *testing.T) {
	for _, w := range goodRuns() {
		w.Since = nil
		for _, s := range goodScans() {
			w.Scan = s
			checkRun(t, "Scan", w)
		}
	}
	w := midRun()
	w.Since = nil
	eachBadScan(func(s impl.Scan) {
		w.Scan = s
		checkNoRun(t, "Scan", w)
	})
}

// sinceCase has the keys of items, a scan, and keys that may or may not be there since it began.
type sinceCase struct {
	name  string
	keys  []int
	scan  impl.Scan
	since []int
	want  bool
}

func sinceCases() []sinceCase {
	keys, all := []int{3, 7, 20, 21, 25, 52}, allKeys()
	return []sinceCase{
		{"none", keys, impl.Scan{}, nil, true},
		{"all, new scan", keys, impl.Scan{}, keys, true},
		{"all positions, new scan", all, impl.Scan{}, all, true},
		{"all positions, all told", all, scan(64, all...), all, true},
		{"all positions, one not told", all, scan(64, withoutKey(all, 30)...), all, false},
		{"all positions, the first one not told", all, scan(64, all[1:]...), all, false},
		{"all positions, the last one not told", all, scan(64, all[:63]...), all, false},
		{"all positions, the last one not passed", all, scan(63, all[:63]...), all, true},
		{"first repeated", keys, impl.Scan{}, []int{3, 3, 7}, false},
		{"last repeated", keys, impl.Scan{}, []int{3, 7, 7}, false},
		{"first descends", keys, impl.Scan{}, []int{7, 3, 20}, false},
		{"last descends", keys, impl.Scan{}, []int{3, 20, 7}, false},
		{"descending, all told", keys, scan(64, keys...), []int{7, 3}, false},
		{"repeated, all told", keys, scan(64, keys...), []int{7, 7}, false},
		{"a key of no item", keys, impl.Scan{}, []int{4}, false},
		{"a key of no item, first", keys, impl.Scan{}, []int{2, 3}, false},
		{"a key of no item, last", keys, impl.Scan{}, []int{3, 53}, false},
		{"a key of no item, between", keys, impl.Scan{}, []int{3, 8, 20}, false},
		{"a key of no item that was told", keys, scan(21, 3, 4), []int{3, 4}, false},
		{"a key of no item, not passed", keys, scan(21, 3), []int{3, 30}, false},
		{"no items", nil, impl.Scan{}, []int{3}, false},
		{"no items, told", nil, scan(21, 3), []int{3}, false},
		{"no items, none since", nil, scan(21, 3), nil, true},
		{"told", keys, scan(21, 3, 7), []int{3, 7}, true},
		{"one of two told", keys, scan(21, 3, 7), []int{3}, true},
		{"passed, not told", keys, scan(21, 3), []int{7}, false},
		{"one passed, not told", keys, scan(21, 3), []int{3, 7}, false},
		{"first passed, not told", keys, scan(21, 7), []int{3, 7}, false},
		{"others told", keys, scan(21, 4, 8), []int{3}, false},
		{"one before Next, told", keys, scan(21, 20), []int{20}, true},
		{"one before Next, not told", keys, scan(21), []int{20}, false},
		{"at Next", keys, scan(21), []int{21}, true},
		{"one behind Next", keys, scan(20), []int{21}, true},
		{"only behind Next", keys, scan(21, 3), []int{21, 25, 52}, true},
		{"told and behind Next", keys, scan(21, 3, 7), []int{3, 7, 25}, true},
		{"not told and behind Next", keys, scan(21, 3), []int{7, 25}, false},
		{"told and not told and behind Next", keys, scan(21, 3), []int{3, 7, 25}, false},
		{"complete scan, told", keys, scan(64, 3, 52), []int{3, 52}, true},
		{"complete scan, not told", keys, scan(64, 3), []int{3, 52}, false},
		{"key 0, told", []int{0}, scan(1, 0), []int{0}, true},
		{"key 0, passed, not told", []int{0}, scan(1), []int{0}, false},
		{"key 0, not passed", []int{0}, impl.Scan{}, []int{0}, true},
		{"key 63, told", []int{63}, scan(64, 63), []int{63}, true},
		{"key 63, passed, not told", []int{63}, scan(64), []int{63}, false},
		{"key 63, not passed", []int{63}, scan(63), []int{63}, true},
		{"-1", keys, impl.Scan{}, []int{-1}, false},
		{"-1 first", keys, impl.Scan{}, []int{-1, 3}, false},
		{"-1 last", keys, impl.Scan{}, []int{3, -1}, false},
		{"Circle", keys, impl.Scan{}, []int{64}, false},
		{"Circle last", all, impl.Scan{}, append(slices.Clone(all), 64), false},
		{"extreme", keys, impl.Scan{}, []int{math.MinInt, math.MaxInt}, false},
		{"much too many", keys, impl.Scan{}, make([]int, 1000), false},
	}
}

func TestWorldValidSince(t *testing.T) {
	for _, x := range sinceCases() {
		for _, w := range []impl.World{modelRun([]int{5, 20, 35}), midRun(), fullRun()} {
			w.Items, w.Scan, w.Since = nil, x.scan, x.since
			for _, key := range x.keys {
				w.Items = append(w.Items, item(key, 5))
			}
			if x.want {
				checkRun(t, x.name, w)
			} else {
				checkNoRun(t, x.name, w)
			}
		}
	}
}

// All lists of up to three keys around Next, with all choices of what was told and what is there.
func TestWorldValidSinceModelled(t *testing.T) {
	positions, valid, count := []int{18, 19, 20, 21}, 0, 0
	lists := [][]int{nil, {-1}, {64}}
	for _, a := range positions {
		lists = append(lists, []int{a})
		for _, b := range positions {
			lists = append(lists, []int{a, b})
			for _, c := range positions {
				lists = append(lists, []int{a, b, c})
			}
		}
	}
	chosen := func(number int) []int {
		return slices.DeleteFunc(slices.Clone(positions), func(p int) bool { return number>>(p-18)&1 == 0 })
	}
	w := midRun()
	for number := range 16 * 16 {
		w.Items, w.Scan = nil, scan(20, below(chosen(number%16), 20)...)
		for _, key := range chosen(number / 16) {
			w.Items = append(w.Items, item(key, 5))
		}
		for _, since := range lists {
			w.Since = since
			got := impl.WorldValid(w)
			if got != modelRunValid(w) {
				t.Fatalf("WorldValid(%v) = %v", w, got)
			}
			count++
			if got {
				valid++
			}
		}
	}
	if valid < 500 || count < 2*valid {
		t.Errorf("%d runs, of which %d are valid, do not test enough", count, valid)
	}
}

func TestWorldOwnerCases(t *testing.T) {
	w := midRun()
	for _, x := range []struct{ key, want int }{
		{-1, -1}, {0, 5}, {1, 5}, {4, 5}, {5, 5}, {6, 20}, {19, 20}, {20, 20}, {21, -1}, {29, -1}, {30, -1}, {31, -1}, {34, -1}, {35, -1}, {36, 50}, {49, 50}, {50, 50}, {51, 5}, {62, 5}, {63, 5}, {64, -1},
	} {
		if got := impl.WorldOwner(w, x.key); got != x.want {
			t.Errorf("WorldOwner(%v, %d) = %d, want %d", w, x.key, got, x.want)
		}
	}
	for _, key := range notPositions {
		for _, w := range goodRuns() {
			if got := impl.WorldOwner(w, key); got != -1 {
				t.Errorf("WorldOwner(%v, %d) = %d, want -1", w, key, got)
			}
		}
	}
}

// The time of a lease is before Now, is Now, or is later. A lease expires only after its time.
func TestWorldOwnerTimes(t *testing.T) {
	for _, x := range []struct{ now, until, want int }{
		{100, 0, -1}, {100, 98, -1}, {100, 99, -1}, {100, 100, 20}, {100, 101, 20}, {100, 999, 20},
		{0, 0, 20}, {0, 1, 20}, {1, 0, -1}, {1, 1, 20}, {999, 998, -1}, {999, 999, 20}, {998, 998, 20}, {998, 997, -1}, {999, 0, -1},
	} {
		for _, list := range [][]impl.Lease{{lease(20, 20, x.until)}, {lease(20, 20, x.until), lease(50, 35, 999)}, {lease(0, 35, 0), lease(20, 20, x.until)}} {
			w := impl.World{Now: x.now, Ring: fourNodes(), Leases: list}
			if got := impl.WorldOwner(w, 20); got != x.want {
				t.Errorf("WorldOwner(%v, 20) = %d, want %d", w, got, x.want)
			}
		}
	}
}

// Any position may have a lease; its node is an owner only if it is live.
func TestWorldOwnerNodes(t *testing.T) {
	for id := range impl.Circle {
		want := -1
		if id == 5 || id == 20 || id == 35 || id == 50 {
			want = id
		}
		for _, end := range []int{0, 20, 35, 63, id} {
			w := impl.World{Now: 100, Ring: fourNodes(), Leases: []impl.Lease{lease(end, id, 110)}}
			for _, key := range []int{0, 20, 21, 35, 63, id} {
				if got := impl.WorldOwner(w, key); got != want {
					t.Errorf("WorldOwner(%v, %d) = %d, want %d", w, key, got, want)
				}
			}
		}
	}
}

func TestWorldOwnerModelled(t *testing.T) {
	owned, free := 0, 0
	for _, w := range someRuns() {
		for key := -2; key <= impl.Circle+1; key++ {
			got, want := impl.WorldOwner(w, key), modelKeyOwner(w, key)
			if got != want {
				t.Fatalf("WorldOwner(%v, %d) = %d, want %d", w, key, got, want)
			}
			if want == -1 {
				free++
			} else {
				owned++
			}
		}
	}
	succeeded(t, owned)
	succeeded(t, free)
}

func TestWorldPlayCases(t *testing.T) {
	ids := []int{5, 20, 35, 50}
	for _, events := range [][]impl.Event{nil, {}, {{}}, {event(15), event(-1, 5, 5, 5)}, {event(11, 5, 20, 1)}} {
		if got, ok := impl.WorldPlay(ids, events); !ok || !sameRun(got, modelRun(ids)) {
			t.Errorf("WorldPlay(%v, %v) = %v, %v, want a new run", ids, events, got, ok)
		}
	}
	want := impl.World{
		Now:    2,
		Ring:   []impl.Node{node(5, 50, 20, 35), node(10, 5, 20, 35), node(20, 5, 35, 50), node(35, 20, 50, 5), node(50, 35, 5, 20)},
		Leases: []impl.Lease{lease(5, 5, 20), lease(10, 10, 21), lease(20, 20, 22), lease(35, 35, 20), lease(50, 50, 20)},
		Items:  []impl.Item{item(7, 43), item(60, 99)},
		Scan:   scan(6), Since: []int{60},
	}
	events := []impl.Event{event(1, 10, 5), event(11, 20, 7, 42), event(11, 5, 60, 99), event(10), event(7, 20, 10, 10), event(13), event(14), event(12, 10, 7), event(11, 10, 7, 43), event(11, 20, 7, 44), event(10), event(9, 20)}
	if got := played(t, ids, events...); !sameRun(got, want) {
		t.Errorf("WorldPlay(%v, %v) = %v, want %v", ids, events, got, want)
	}
}

// As many events as there may be, and one more.
func TestWorldPlayMost(t *testing.T) {
	for _, ids := range [][]int{{5, 20, 35}, walkIds(mostNodes())} {
		for _, count := range []int{1, 79, 80, 81, 82, 160, 1000} {
			for _, e := range []impl.Event{event(10), {}, event(13)} {
				want := modelRun(ids)
				if e.Kind == 10 {
					want.Now = count
				}
				got, ok := impl.WorldPlay(ids, slices.Repeat([]impl.Event{e}, count))
				if count > 80 && (ok || !sameRun(got, impl.World{})) || count <= 80 && (!ok || !sameRun(got, want)) {
					t.Errorf("WorldPlay(%v) of %d events %v = %v, %v", ids, count, e, got, ok)
				}
			}
		}
	}
}

func TestWorldPlayInvalid(t *testing.T) {
	for name, ids := range notRingSets() {
		for _, events := range [][]impl.Event{nil, {event(10)}, slices.Repeat([]impl.Event{event(10)}, 80), slices.Repeat([]impl.Event{event(10)}, 81)} {
			if got, ok := impl.WorldPlay(ids, events); ok || !sameRun(got, impl.World{}) {
				t.Errorf("%s: WorldPlay(%v) of %d events = %v, %v, want the zero value and false", name, ids, len(events), got, ok)
			}
		}
	}
}

func TestWorldPlayModelled(t *testing.T) {
	for _, p := range somePlays() {
		want := modelRun(p.ids)
		for _, e := range p.events {
			want = modelDo(want, e)
		}
		if got := played(t, p.ids, p.events...); !sameRun(got, want) {
			t.Fatalf("WorldPlay(%v, %v) = %v, want %v", p.ids, p.events, got, want)
		}
	}
}

func checkQuiet(t *testing.T, name string, w, want impl.World) {
	t.Helper()
	if got := impl.WorldCalm(w); !sameRun(got, want) {
		t.Fatalf("%s: WorldCalm(%v) = %v, want %v", name, w, got, want)
	}
}

func TestWorldCalmCases(t *testing.T) {
	calmed := func(now, until int) impl.World {
		return altered(func(w *impl.World) {
			w.Now, w.Leases = now, []impl.Lease{lease(5, 5, until), lease(20, 20, until), lease(35, 35, until), lease(50, 50, until)}
		})
	}
	checkQuiet(t, "an ideal ring", midRun(), calmed(121, 141))
	for _, x := range []struct{ now, want, until int }{
		{0, 21, 41}, {957, 978, 998}, {958, 979, 999}, {959, 980, 999}, {977, 998, 999}, {978, 999, 999}, {979, 999, 999}, {998, 999, 999}, {999, 999, 999},
	} {
		checkQuiet(t, "late", altered(func(w *impl.World) { w.Now = x.now }), calmed(x.want, x.until))
	}
	failed := altered(func(w *impl.World) { w.Ring = without(w.Ring, 1) })
	want := calmed(121, 141)
	want.Ring, want.Leases = walkRing([]int{5, 35, 50}), slices.Delete(want.Leases, 1, 2)
	checkQuiet(t, "after a failure", failed, want)
	both := altered(func(w *impl.World) { w.Ring = joined(without(w.Ring, 1), node(60, 50, 5, 20)) })
	want.Ring, want.Leases = walkRing([]int{5, 35, 50, 60}), append(want.Leases, lease(60, 60, 141))
	checkQuiet(t, "after a failure and a join", both, want)
	full := fullRun()
	full.Leases = modelEachLease(full.Ring, 999)
	checkQuiet(t, "MaxNodes nodes", fullRun(), full)
}

func TestWorldCalmModelled(t *testing.T) {
	for _, w := range someRuns() {
		checkQuiet(t, "some", w, modelCalmed(w))
	}
	for i, ring := range stepRings() {
		w := goodRuns()[i%5]
		w.Ring = ring
		checkQuiet(t, "some ring", w, modelCalmed(w))
	}
}

// Between events, a quiet period changes what they find, and the scan goes on behind it.
func TestWorldCalmDuringScan(t *testing.T) {
	ids := []int{5, 20, 35, 50}
	w := played(t, ids, event(11, 5, 3, 1), event(11, 20, 15, 2), event(11, 50, 45, 3), event(13), event(14), event(2, 50))
	w = impl.WorldCalm(w)
	want := impl.World{Now: 21, Ring: walkRing([]int{5, 20, 35}), Leases: []impl.Lease{lease(5, 5, 41), lease(20, 20, 41), lease(35, 35, 41)}, Items: []impl.Item{item(3, 1), item(15, 2), item(45, 3)}, Scan: scan(6, 3), Since: []int{3, 15, 45}}
	if !sameRun(w, want) {
		t.Fatalf("after a quiet period %v, want %v", w, want)
	}
	for range 3 {
		w = impl.WorldDo(w, event(14))
	}
	if want.Scan = scan(64, 3, 15, 45); !sameRun(w, want) {
		t.Errorf("after the scan %v, want %v", w, want)
	}
}
