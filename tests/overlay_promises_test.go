package tests

import (
	"slices"
	"testing"

	"loop.example/ringoverlay/impl"
)

// eachOwner calls check with valid runs, all keys and their owners, or -1. The owners are those of WorldOwner.
func eachOwner(t *testing.T, check func(w impl.World, key, owner int)) {
	t.Helper()
	owned, free := 0, 0
	for _, w := range someRuns() {
		for key := range impl.Circle {
			owner := impl.WorldOwner(w, key)
			if owner == -1 {
				free++
			} else {
				owned++
			}
			check(w, key, owner)
		}
	}
	succeeded(t, owned)
	succeeded(t, free)
}

// leaseOf returns the lease of a key, which must be there.
func leaseOf(t *testing.T, w impl.World, key int) impl.Lease {
	t.Helper()
	l, ok := impl.LeaseOf(w.Leases, key)
	if !ok {
		t.Fatalf("LeaseOf(%v, %d) fails", w.Leases, key)
	}
	return l
}

// otherThan returns the run with some of its parts replaced by those of another one, so that only the other parts count.
func otherThan(w, from impl.World, parts ...string) impl.World {
	for _, part := range parts {
		switch part {
		case "Now":
			w.Now = from.Now
		case "Ring":
			w.Ring = from.Ring
		case "Leases":
			w.Leases = from.Leases
		case "Items":
			w.Items = from.Items
		case "Scan":
			w.Scan = from.Scan
		case "Since":
			w.Since = from.Since
		}
	}
	return w
}

// checkOnly requires that nothing but some parts of a run is different.
func checkOnly(t *testing.T, w impl.World, e impl.Event, got impl.World, parts ...string) {
	t.Helper()
	if !sameRun(otherThan(got, w, parts...), w) {
		t.Fatalf("WorldDo(%v, %v) = %v, where more than %v is different", w, e, got, parts)
	}
}

func TestPromise149(t *testing.T) {
	count := 0
	for _, ids := range append(someSets(), startSets()...) {
		w, ok := impl.WorldNew(ids)
		if !ok {
			continue
		}
		count++
		if !impl.WorldValid(w) || !impl.RingIdeal(w.Ring) || !slices.Equal(impl.RingIds(w.Ring), ids) {
			t.Fatalf("WorldNew(%v) = %v", ids, w)
		}
		for key := range impl.Circle {
			if holder := impl.NodesNext(ids, key); leaseOf(t, w, key).Owner != holder || impl.WorldOwner(w, key) != holder {
				t.Fatalf("WorldNew(%v) = %v, where key %d is held by %v", ids, w, key, leaseOf(t, w, key))
			}
		}
		if w.Now != 0 || len(w.Items) > 0 || !sameScan(w.Scan, impl.Scan{}) || len(w.Since) > 0 || len(w.Leases) != len(ids) {
			t.Fatalf("WorldNew(%v) = %v, which is not new", ids, w)
		}
	}
	succeeded(t, count)
}

// Neighbouring nodes, nodes at the ends of the circle, Base nodes and MaxNodes nodes, at all places.
func TestPromise149Sets(t *testing.T) {
	for start := range impl.Circle {
		for size := 3; size <= 10; size++ {
			ids := turned(allKeys()[:size], start)
			w := newRun(t, ids)
			if !impl.WorldValid(w) || !impl.RingIdeal(w.Ring) {
				t.Fatalf("WorldNew(%v) = %v", ids, w)
			}
			for key := range impl.Circle {
				if got := impl.WorldOwner(w, key); got != walkNext(ids, key) {
					t.Fatalf("WorldNew(%v) = %v, where the owner of %d is %d", ids, w, key, got)
				}
			}
		}
	}
}

func TestPromise150(t *testing.T) {
	eachDo(t, allKinds(), func(w impl.World, e impl.Event, got impl.World) {
		if !impl.WorldValid(w) || !impl.WorldValid(got) || !impl.RingSafe(got.Ring) || !modelRunValid(got) {
			t.Fatalf("WorldDo(%v, %v) = %v, which is invalid", w, e, got)
		}
	})
}

func TestPromise150Plays(t *testing.T) {
	eachPlayed(t, func(p play, number int, w impl.World, e impl.Event, got impl.World) {
		if !impl.WorldValid(got) || !impl.RingSafe(got.Ring) {
			t.Fatalf("event %d of %v: WorldDo(%v, %v) = %v, which is invalid", number, p, w, e, got)
		}
	})
}

// Each part in turn is that of a run which is invalid because of this part.
func TestPromise151(t *testing.T) {
	count := 0
	for i, w := range someRuns() {
		bad := w
		switch i % 6 {
		case 0:
			bad.Now = notTimes[i%len(notTimes)]
		case 1:
			bad.Ring = w.Ring[:2]
		case 2:
			bad.Leases = append(slices.Clone(w.Leases), w.Leases[len(w.Leases)-1])
		case 3:
			bad.Items = append(slices.Clone(w.Items), item(i%2*65-1, 0))
		case 4:
			bad.Scan.Told = append(slices.Clone(w.Scan.Told), w.Scan.Next)
		case 5:
			bad.Since = append(slices.Clone(w.Since), 64)
		}
		if impl.WorldValid(bad) {
			t.Fatalf("WorldValid(%v)", bad)
		}
		for _, kind := range allKinds() {
			for _, e := range nearEvents(w, kind, i) {
				if got := impl.WorldDo(bad, e); !sameRun(got, impl.World{}) {
					t.Fatalf("WorldDo(%v, %v) = %v", bad, e, got)
				}
				count++
			}
		}
		if got := impl.WorldCalm(bad); !sameRun(got, impl.World{}) {
			t.Fatalf("WorldCalm(%v) = %v", bad, got)
		}
		for key := -1; key <= impl.Circle; key++ {
			if got := impl.WorldOwner(bad, key); got != -1 {
				t.Fatalf("WorldOwner(%v, %d) = %d", bad, key, got)
			}
		}
	}
	succeeded(t, count)
}

// At every event of many plays, the whole up to it is the whole before it and this event alone.
func TestPromise152(t *testing.T) {
	for i, p := range somePlays() {
		if i%4 > 0 {
			continue
		}
		before := played(t, p.ids)
		if !sameRun(before, newRun(t, p.ids)) {
			t.Fatalf("a play of no event is %v", before)
		}
		for number, e := range p.events {
			whole := played(t, p.ids, p.events[:number+1]...)
			if got := impl.WorldDo(before, e); !sameRun(got, whole) {
				t.Fatalf("%d events of %v: %v, but %v one event at a time", number+1, p, whole, got)
			}
			before = whole
		}
	}
}

func TestPromise153(t *testing.T) {
	eachOwner(t, func(w impl.World, key, owner int) {
		l := leaseOf(t, w, key)
		may := isLive(w.Ring, l.Owner) && l.Until >= w.Now
		if owner != -1 && (owner != l.Owner || !isLive(w.Ring, owner) || l.Until < w.Now) || may != (owner != -1) {
			t.Fatalf("WorldOwner(%v, %d) = %d, which holds %v", w, key, owner, l)
		}
	})
}

func TestPromise154(t *testing.T) {
	changes := 0
	check := func(w impl.World, e impl.Event, got impl.World) {
		if slices.Equal(got.Items, w.Items) {
			return
		}
		for key := range impl.Circle {
			if valueOf(w.Items, key) == valueOf(got.Items, key) {
				continue
			}
			changes++
			if owner := impl.WorldOwner(w, key); e.Kind != impl.EvPut && e.Kind != impl.EvErase || e.B != key || owner == -1 || e.A != owner {
				t.Fatalf("WorldDo(%v, %v) = %v changes the value of %d, whose owner is %d", w, e, got, key, owner)
			}
		}
	}
	eachDo(t, allKinds(), check)
	eachPlayed(t, func(_ play, _ int, w impl.World, e impl.Event, got impl.World) { check(w, e, got) })
	succeeded(t, changes)
}

// No two nodes can change a key: of all positions, and numbers that are none, only the owner can.
func TestPromise154AllNodes(t *testing.T) {
	changes := 0
	for i, w := range someRuns() {
		key := i % impl.Circle
		value := (valueOf(w.Items, key) + 1) % 100
		for id := -1; id <= impl.Circle; id++ {
			for _, e := range []impl.Event{event(impl.EvPut, id, key, value), event(impl.EvErase, id, key)} {
				got := impl.WorldDo(w, e)
				if slices.Equal(got.Items, w.Items) {
					continue
				}
				changes++
				if id == -1 || id != impl.WorldOwner(w, key) {
					t.Fatalf("WorldDo(%v, %v) = %v, but the owner is %d", w, e, got, impl.WorldOwner(w, key))
				}
			}
		}
	}
	if changes < 500 {
		t.Errorf("only %d events change something", changes)
	}
}

func TestPromise155(t *testing.T) {
	count := 0
	eachOwner(t, func(w impl.World, key, owner int) {
		if owner == -1 {
			return
		}
		count++
		for _, value := range []int{0, 99, key} {
			e := event(impl.EvPut, owner, key, value)
			got := impl.WorldDo(w, e)
			if valueOf(got.Items, key) != value || !slices.Equal(modelItems(got.Items, key, -1), modelItems(w.Items, key, -1)) {
				t.Fatalf("WorldDo(%v, %v) = %v", w, e, got)
			}
			checkOnly(t, w, e, got, "Items")
		}
		e := event(impl.EvErase, owner, key)
		got := impl.WorldDo(w, e)
		if !slices.Equal(got.Items, modelItems(w.Items, key, -1)) || !slices.Equal(got.Since, withoutKey(w.Since, key)) {
			t.Fatalf("WorldDo(%v, %v) = %v", w, e, got)
		}
		checkOnly(t, w, e, got, "Items", "Since")
	})
	succeeded(t, count)
}

func TestPromise156(t *testing.T) {
	hands, takes := 0, 0
	check := func(w impl.World, e impl.Event, got impl.World) {
		if slices.Equal(got.Leases, w.Leases) {
			return
		}
		for key := range impl.Circle {
			was, is := leaseOf(t, w, key), leaseOf(t, got, key)
			if was.Owner == is.Owner {
				continue
			}
			switch {
			case e.Kind == impl.EvHand && e.A == was.Owner && was.Until >= w.Now && e.C == is.Owner:
				hands++
			case e.Kind == impl.EvTake && was.Until < w.Now && e.A == is.Owner:
				takes++
			default:
				t.Fatalf("WorldDo(%v, %v) = %v gives key %d of %v to %v", w, e, got, key, was, is)
			}
		}
	}
	eachDo(t, allKinds(), check)
	eachPlayed(t, func(_ play, _ int, w impl.World, e impl.Event, got impl.World) { check(w, e, got) })
	succeeded(t, hands)
	succeeded(t, takes)
}

func TestPromise157(t *testing.T) {
	changes, late := 0, 0
	check := func(w impl.World, e impl.Event, got impl.World) {
		for _, l := range got.Leases {
			if slices.Contains(w.Leases, l) {
				continue
			}
			changes++
			if !isLive(w.Ring, l.Owner) || !isLive(got.Ring, l.Owner) || l.Until != min(w.Now+impl.Term, impl.MaxTime) {
				t.Fatalf("WorldDo(%v, %v) = %v gives %v", w, e, got, l)
			}
			if w.Now+impl.Term > impl.MaxTime {
				late++
			}
		}
		// A lease that is gone was replaced by one with the same End.
		for _, l := range w.Leases {
			if !hasEnd(got.Leases, l.End) {
				t.Fatalf("WorldDo(%v, %v) = %v, where %v is gone", w, e, got, l)
			}
		}
	}
	eachDo(t, allKinds(), check)
	eachPlayed(t, func(_ play, _ int, w impl.World, e impl.Event, got impl.World) { check(w, e, got) })
	succeeded(t, changes)
	succeeded(t, late)
}

func TestPromise158(t *testing.T) {
	eachDo(t, []int{impl.EvJoin, impl.EvFail, impl.EvDrop, impl.EvAdopt, impl.EvCloser, impl.EvNotify}, func(w impl.World, e impl.Event, got impl.World) {
		checkOnly(t, w, e, got, "Ring")
		want, ok := ringSteps()[e.Kind-1].do(w.Ring, e.A, e.B)
		if !ok {
			want = w.Ring
		}
		if !sameRing(got.Ring, want) {
			t.Fatalf("WorldDo(%v, %v) = %v, want the ring %v", w, e, got, want)
		}
	})
}

func TestPromise159(t *testing.T) {
	late, last := 0, 0
	eachDo(t, []int{impl.EvTick}, func(w impl.World, e impl.Event, got impl.World) {
		checkOnly(t, w, e, got, "Now")
		if got.Now != w.Now+1 && (got.Now != w.Now || w.Now != impl.MaxTime) || got.Now > impl.MaxTime {
			t.Fatalf("WorldDo(%v, %v) = %v", w, e, got)
		}
		switch w.Now {
		case impl.MaxTime - 1:
			late++
		case impl.MaxTime:
			last++
		}
	})
	if late < 200 || last < 200 {
		t.Errorf("%d times before MaxTime and %d at MaxTime do not test enough", late, last)
	}
}

// witness watches the keys during a scan, without looking at Since.
type witness struct {
	there   []int // the keys that were there at all times since the scan began
	watched bool  // a scan has begun
}

// see notes an event and the run after it.
func (x *witness) see(e impl.Event, got impl.World) {
	if e.Kind == impl.EvBegin {
		x.there, x.watched = itemKeys(got.Items), true
	} else {
		x.there = slices.DeleteFunc(slices.Clone(x.there), func(key int) bool { return valueOf(got.Items, key) == -1 })
	}
}

// missed returns the keys that were there throughout a complete scan and were not told.
func (x *witness) missed(w impl.World) []int {
	if !impl.ScanDone(w.Scan) {
		return nil
	}
	return slices.DeleteFunc(slices.Clone(x.there), func(key int) bool { return slices.Contains(w.Scan.Told, key) })
}

func TestPromise160(t *testing.T) {
	var x witness
	complete, told, began := 0, 0, 0
	eachPlayed(t, func(p play, number int, w impl.World, e impl.Event, got impl.World) {
		if number == 0 {
			x = witness{}
		}
		x.see(e, got)
		if missed := x.missed(got); len(missed) > 0 || !slices.Equal(got.Since, x.there) {
			t.Fatalf("%d events of %v: %v, where %v are there since the scan began and %v are missed", number+1, p, got, x.there, missed)
		}
		if impl.ScanDone(got.Scan) && !impl.ScanDone(w.Scan) {
			complete++
			told += len(got.Scan.Told)
			if x.watched {
				began++
			}
		}
	})
	if complete < 200 || told < complete || began < 50 {
		t.Errorf("%d scans are complete, %d of them begun by an event, and tell %d keys, which does not test enough", complete, began, told)
	}
}

// shortChoices are the events of short plays: two keys, one of which a scan passes early, are stored, erased, handed over and taken over.
func shortChoices(w impl.World) []impl.Event {
	first, last := modelKeyOwner(w, 10), modelKeyOwner(w, 30)
	return []impl.Event{event(impl.EvBegin), event(impl.EvScan), event(impl.EvPut, first, 10, 1), event(impl.EvErase, first, 10), event(impl.EvPut, last, 30, 2), event(impl.EvErase, last, 30),
		event(impl.EvHand, first, 10, 35), event(impl.EvTake, 5, 30), event(impl.EvTick)}
}

// eachShort calls check with all plays of five such events that follow a beginning.
func eachShort(t *testing.T, ids []int, begin []impl.Event, check func(x witness, events []impl.Event, w impl.World)) {
	t.Helper()
	var extend func(x witness, events []impl.Event, w impl.World)
	extend = func(x witness, events []impl.Event, w impl.World) {
		check(x, events, w)
		if len(events) == len(begin)+5 {
			return
		}
		for _, e := range shortChoices(w) {
			got, next := impl.WorldDo(w, e), x
			next.see(e, got)
			extend(next, append(slices.Clone(events), e), got)
		}
	}
	w, x := newRun(t, ids), witness{}
	for _, e := range begin {
		w = impl.WorldDo(w, e)
		x.see(e, w)
	}
	extend(x, begin, w)
}

// All short plays at time 20, when the lease of node 35 expires: from a scan on that has passed one range, and from one that has passed two.
func TestPromise160Short(t *testing.T) {
	ids, complete := []int{5, 20, 35}, 0
	ticks := slices.Repeat([]impl.Event{event(impl.EvTick)}, 20)
	renewed := []impl.Event{event(impl.EvRenew, 5), event(impl.EvRenew, 20)}
	for _, begin := range [][]impl.Event{
		slices.Concat(ticks, renewed, []impl.Event{event(impl.EvPut, 20, 10, 1), event(impl.EvPut, 35, 30, 2), event(impl.EvBegin), event(impl.EvScan)}),
		slices.Concat(ticks, renewed, []impl.Event{event(impl.EvPut, 35, 30, 2), event(impl.EvBegin), event(impl.EvScan), event(impl.EvScan)}),
	} {
		eachShort(t, ids, begin, func(x witness, events []impl.Event, w impl.World) {
			if missed := x.missed(w); len(missed) > 0 || !slices.Equal(w.Since, x.there) || !impl.WorldValid(w) {
				t.Fatalf("after %v: %v, where %v are there since the scan began and %v are missed", events, w, x.there, missed)
			}
			if impl.ScanDone(w.Scan) {
				complete++
			}
		})
	}
	if complete < 100 {
		t.Errorf("only %d scans are complete", complete)
	}
}

func TestPromise161(t *testing.T) {
	erased := 0
	check := func(w impl.World, e impl.Event, got impl.World) {
		want := w.Since
		switch e.Kind {
		case impl.EvBegin:
			want = itemKeys(w.Items)
		case impl.EvErase:
			if !slices.Equal(got.Items, w.Items) {
				want = withoutKey(w.Since, e.B)
			}
			if !slices.Equal(got.Since, w.Since) {
				erased++
			}
		}
		if !slices.Equal(got.Since, want) {
			t.Fatalf("WorldDo(%v, %v) = %v, want Since %v", w, e, got, want)
		}
	}
	eachDo(t, allKinds(), check)
	eachPlayed(t, func(_ play, _ int, w impl.World, e impl.Event, got impl.World) { check(w, e, got) })
	if erased < 500 {
		t.Errorf("only %d keys are erased that were there since a scan began", erased)
	}
}

func TestPromise162(t *testing.T) {
	changes, free, complete := 0, 0, 0
	check := func(w impl.World, e impl.Event, got impl.World) {
		if e.Kind != impl.EvScan {
			return
		}
		checkOnly(t, w, e, got, "Scan")
		owner := impl.WorldOwner(w, w.Scan.Next)
		switch {
		case impl.ScanDone(w.Scan):
			complete++
		case owner == -1:
			free++
		default:
			changes++
		}
		want := w.Scan
		if owner != -1 {
			want, _ = impl.ScanStep(w.Leases, itemKeys(w.Items), w.Scan)
		}
		if !sameScan(got.Scan, want) || sameScan(got.Scan, w.Scan) != (owner == -1) {
			t.Fatalf("WorldDo(%v, %v) = %v, want the scan %v", w, e, got, want)
		}
	}
	eachDo(t, []int{impl.EvScan}, check)
	eachPlayed(t, func(_ play, _ int, w impl.World, e impl.Event, got impl.World) { check(w, e, got) })
	if changes < 1000 || free < 1000 || complete < 50 {
		t.Errorf("%d steps, %d without an owner, and %d of complete scans do not test enough", changes, free, complete)
	}
}

// A quiet period follows every eighth event of the plays. After the last one, each node also stores its keys.
func TestPromise163(t *testing.T) {
	damage := 0
	eachPlayed(t, func(p play, number int, _ impl.World, _ impl.Event, w impl.World) {
		if number%8 != 7 {
			return
		}
		got := impl.WorldCalm(w)
		if !impl.RingIdeal(got.Ring) || !impl.WorldValid(got) || !slices.Equal(impl.RingIds(got.Ring), impl.RingIds(w.Ring)) {
			t.Fatalf("%d events of %v: WorldCalm(%v) = %v", number+1, p, w, got)
		}
		if !impl.RingIdeal(w.Ring) {
			damage++
		}
		for key := range impl.Circle {
			owner := impl.NodesNext(walkIds(w.Ring), key)
			if impl.WorldOwner(got, key) != owner {
				t.Fatalf("%d events of %v: WorldCalm(%v) = %v, where the owner of %d is %d", number+1, p, w, got, key, impl.WorldOwner(got, key))
			}
			if after := impl.WorldDo(got, event(impl.EvPut, owner, key, 77)); number == 79 && valueOf(after.Items, key) != 77 {
				t.Fatalf("%v: after WorldCalm, node %d does not change key %d: %v", p, owner, key, after)
			}
		}
	})
	succeeded(t, damage)
}

func TestPromise164(t *testing.T) {
	begun, since := 0, 0
	for i, w := range someRuns() {
		got := impl.WorldCalm(w)
		if !slices.Equal(got.Items, w.Items) || !sameScan(got.Scan, w.Scan) || !slices.Equal(got.Since, w.Since) || !impl.WorldValid(got) {
			t.Fatalf("run %d: WorldCalm(%v) = %v", i, w, got)
		}
		if w.Scan.Next > 0 && len(w.Scan.Told) > 0 {
			begun++
		}
		if len(w.Since) > 0 {
			since++
		}
	}
	if begun < 100 || since < 100 {
		t.Errorf("%d scans under way and %d runs with keys since one began do not test enough", begun, since)
	}
}

func TestPromise165(t *testing.T) {
	told := 0
	eachPlayed(t, func(p play, number int, _ impl.World, _ impl.Event, w impl.World) {
		if number%5 != 4 {
			return
		}
		got := impl.WorldCalm(impl.WorldDo(w, event(impl.EvBegin)))
		for range len(got.Leases) + 1 {
			got = impl.WorldDo(got, event(impl.EvScan))
		}
		if !impl.ScanDone(got.Scan) || !slices.Equal(got.Scan.Told, itemKeys(w.Items)) || !slices.Equal(got.Since, itemKeys(w.Items)) {
			t.Fatalf("%d events of %v: the scan of %v ends with %v", number+1, p, w, got)
		}
		told += len(got.Scan.Told)
	})
	succeeded(t, told)
}

// All positions that are not live, for all events of a node.
func TestPromise166(t *testing.T) {
	kinds := []int{impl.EvFail, impl.EvDrop, impl.EvAdopt, impl.EvCloser, impl.EvNotify, impl.EvHand, impl.EvTake, impl.EvRenew, impl.EvPut, impl.EvErase}
	for i, w := range someRuns() {
		ids := walkIds(w.Ring)
		live, key := ids[i%len(ids)], w.Leases[i%len(w.Leases)].End
		for id := -1; id <= impl.Circle; id++ {
			if isLive(w.Ring, id) {
				continue
			}
			for _, kind := range kinds {
				other := key
				if kind == impl.EvCloser || kind == impl.EvNotify {
					other = live
				}
				checkDo(t, "a dead node", w, event(kind, id, other, live), w)
			}
		}
		for _, kind := range []int{-1, 0, 15, 16} {
			checkDo(t, "an unknown kind", w, event(kind, live, key, live), w)
		}
	}
}

func TestPromise167(t *testing.T) {
	whole, part := 0, 0
	eachOwner(t, func(w impl.World, key, owner int) {
		if owner == -1 || len(w.Leases) >= impl.MaxLeases || key%3 == 0 && !hasEnd(w.Leases, key) {
			return
		}
		for _, to := range walkIds(w.Ring) {
			e := event(impl.EvHand, owner, key, to)
			got := impl.WorldDo(w, e)
			if impl.WorldOwner(got, key) != to {
				t.Fatalf("WorldDo(%v, %v) = %v, where the owner of %d is %d", w, e, got, key, impl.WorldOwner(got, key))
			}
			checkOnly(t, w, e, got, "Leases")
		}
		if hasEnd(w.Leases, key) {
			whole++
		} else {
			part++
		}
	})
	succeeded(t, whole)
	succeeded(t, part)
}

func TestPromise168(t *testing.T) {
	dead, live := 0, 0
	eachOwner(t, func(w impl.World, key, owner int) {
		l := leaseOf(t, w, key)
		for _, id := range walkIds(w.Ring) {
			e := event(impl.EvTake, id, key)
			got := impl.WorldDo(w, e)
			if l.Until >= w.Now {
				if !sameRun(got, w) {
					t.Fatalf("WorldDo(%v, %v) = %v, but %v has not expired", w, e, got, l)
				}
				continue
			}
			if owner != -1 || impl.WorldOwner(got, key) != id {
				t.Fatalf("WorldDo(%v, %v) = %v, where the owner of %d is %d", w, e, got, key, impl.WorldOwner(got, key))
			}
			if checkOnly(t, w, e, got, "Leases"); isLive(w.Ring, l.Owner) {
				live++
			} else {
				dead++
			}
		}
	})
	succeeded(t, live)
	succeeded(t, dead)
}

func TestPromise169(t *testing.T) {
	fails, held := 0, 0
	for i, w := range someRuns() {
		for _, id := range walkIds(w.Ring) {
			got := impl.WorldDo(w, event(impl.EvFail, id))
			if isLive(got.Ring, id) {
				continue
			}
			fails++
			for key := range impl.Circle {
				if impl.WorldOwner(got, key) == id {
					t.Fatalf("run %d, after the failure of %d: %v, where it is the owner of %d", i, id, got, key)
				}
				if impl.WorldOwner(w, key) != id && key%8 > 0 {
					continue
				}
				held++
				for _, kind := range []int{impl.EvPut, impl.EvErase, impl.EvRenew, impl.EvTake, impl.EvHand} {
					checkDo(t, "a failed node", got, event(kind, id, key, walkIds(got.Ring)[0]), got)
				}
			}
		}
	}
	succeeded(t, fails)
	succeeded(t, held)
}

// The lease of a failed node is not gone: the node is the owner again if it joins again before the lease has expired.
func TestPromise169JoinsAgain(t *testing.T) {
	ids := []int{5, 20, 35, 50}
	events := []impl.Event{event(impl.EvPut, 20, 7, 42), event(impl.EvFail, 20), event(impl.EvPut, 20, 7, 1), event(impl.EvDrop, 5), event(impl.EvJoin, 20, 5)}
	if w := played(t, ids, events[:4]...); impl.WorldOwner(w, 7) != -1 || valueOf(w.Items, 7) != 42 {
		t.Errorf("after the failure: %v", w)
	}
	if w := played(t, ids, append(events, event(impl.EvPut, 20, 7, 9))...); impl.WorldOwner(w, 7) != 20 || valueOf(w.Items, 7) != 9 {
		t.Errorf("after the node has joined again: %v", w)
	}
	late := append(slices.Clone(events), slices.Repeat([]impl.Event{event(impl.EvTick)}, 21)...)
	if w := played(t, ids, append(late, event(impl.EvPut, 20, 7, 9))...); impl.WorldOwner(w, 7) != -1 || valueOf(w.Items, 7) != 42 {
		t.Errorf("after the node has joined again and its lease has expired: %v", w)
	}
}
