package tests

import (
	"slices"
	"sync"
	"testing"

	"loop.example/ringoverlay/impl"
)

// event returns an event with the numbers A, B and C, those that are missing being 0.
func event(kind int, numbers ...int) impl.Event {
	numbers = append(numbers, 0, 0, 0)
	return impl.Event{Kind: kind, A: numbers[0], B: numbers[1], C: numbers[2]}
}

func item(key, value int) impl.Item {
	return impl.Item{Key: key, Value: value}
}

func sameRun(a, b impl.World) bool {
	return a.Now == b.Now && sameRing(a.Ring, b.Ring) && slices.Equal(a.Leases, b.Leases) && slices.Equal(a.Items, b.Items) && sameScan(a.Scan, b.Scan) && slices.Equal(a.Since, b.Since)
}

func cloneRun(w impl.World) impl.World {
	w.Ring, w.Leases, w.Items = cloneRing(w.Ring), slices.Clone(w.Leases), slices.Clone(w.Items)
	w.Scan.Told, w.Since = slices.Clone(w.Scan.Told), slices.Clone(w.Since)
	return w
}

func isPosition(p int) bool {
	return slices.Contains(allKeys(), p)
}

// itemKeys lists the keys in the order of the list.
func itemKeys(items []impl.Item) []int {
	keys := []int{}
	for _, i := range items {
		keys = append(keys, i.Key)
	}
	return keys
}

// valueOf returns the value of a key, or -1 if it is not there.
func valueOf(items []impl.Item, key int) int {
	if i := slices.Index(itemKeys(items), key); i >= 0 {
		return items[i].Value
	}
	return -1
}

// inOrder walks along the circle and reports whether it finds all of the keys in turn.
func inOrder(keys []int) bool {
	found := 0
	for p := range 64 {
		if found < len(keys) && keys[found] == p {
			found++
		}
	}
	return found == len(keys)
}

// modelRunValid follows the definition; rings and leases are checked by the functions of their chapters.
func modelRunValid(w impl.World) bool {
	if w.Now < 0 || w.Now > 999 || !impl.RingValid(w.Ring) || !walkSafe(w.Ring) || !impl.LeasesValid(w.Leases) || !modelScanValid(w.Scan) {
		return false
	}
	if !inOrder(itemKeys(w.Items)) || !inOrder(w.Since) || slices.ContainsFunc(w.Items, func(i impl.Item) bool { return i.Value < 0 || i.Value > 99 }) {
		return false
	}
	for _, key := range w.Since {
		if valueOf(w.Items, key) == -1 || key < w.Scan.Next && !slices.Contains(w.Scan.Told, key) {
			return false
		}
	}
	return true
}

// modelKeyOwner returns the owner of a key of a valid run, or -1.
func modelKeyOwner(w impl.World, key int) int {
	if !isPosition(key) {
		return -1
	}
	l := w.Leases[walkLease(w.Leases, key)]
	if isLive(w.Ring, l.Owner) && l.Until >= w.Now {
		return l.Owner
	}
	return -1
}

// modelItems returns the items with another value of a key, or without the key if the value is -1.
func modelItems(items []impl.Item, key, value int) []impl.Item {
	result := []impl.Item{}
	for p := range 64 {
		v := valueOf(items, p)
		if p == key {
			v = value
		}
		if v != -1 {
			result = append(result, item(p, v))
		}
	}
	return result
}

func modelEachLease(ring []impl.Node, until int) []impl.Lease {
	list := []impl.Lease{}
	for _, id := range walkIds(ring) {
		list = append(list, lease(id, id, until))
	}
	return list
}

// modelRun returns a new run of at least three nodes.
func modelRun(ids []int) impl.World {
	return impl.World{Ring: walkRing(ids), Leases: modelEachLease(walkRing(ids), 20)}
}

// modelDo applies an event to a valid run. The result may share memory with the run.
func modelDo(w impl.World, e impl.Event) impl.World {
	switch e.Kind {
	case 1, 2, 3, 4, 5, 6:
		w.Ring = modelRingEvent(w.Ring, e)
	case 7, 8, 9:
		w.Leases = modelLeaseEvent(w, e)
	case 10:
		w.Now = min(w.Now+1, 999)
	case 11, 12:
		return modelItemEvent(w, e)
	case 13:
		w.Scan, w.Since = impl.Scan{}, itemKeys(w.Items)
	case 14:
		if modelKeyOwner(w, w.Scan.Next) != -1 {
			w.Scan, _ = modelScanStep(w.Leases, itemKeys(w.Items), w.Scan)
		}
	}
	return w
}

func modelRingEvent(ring []impl.Node, e impl.Event) []impl.Node {
	kind := ringSteps()[e.Kind-1]
	if isPosition(e.A) && (isPosition(e.B) || !kind.pair) {
		ring, _ = kind.model(ring, e.A, e.B)
	}
	return ring
}

func modelLeaseEvent(w impl.World, e impl.Event) []impl.Lease {
	list, until := w.Leases, min(w.Now+20, 999)
	switch {
	case !isLive(w.Ring, e.A):
	case e.Kind == 7 && modelKeyOwner(w, e.B) == e.A && isLive(w.Ring, e.C):
		list, _ = modelHand(list, e.A, e.B, e.C, until)
	case e.Kind == 8 && isPosition(e.B):
		list, _ = modelTake(list, e.B, e.A, w.Now, until)
	case e.Kind == 9:
		list, _ = modelRenew(list, e.A, w.Now, until)
	}
	return list
}

func modelItemEvent(w impl.World, e impl.Event) impl.World {
	if !isLive(w.Ring, e.A) || modelKeyOwner(w, e.B) != e.A {
		return w
	}
	if e.Kind == 12 {
		w.Items, w.Since = modelItems(w.Items, e.B, -1), withoutKey(w.Since, e.B)
	} else if e.C >= 0 && e.C <= 99 {
		w.Items = modelItems(w.Items, e.B, e.C)
	}
	return w
}

// modelCalmed returns a valid run after a quiet period.
func modelCalmed(w impl.World) impl.World {
	w.Ring = walkRing(walkIds(w.Ring))
	w.Now = min(w.Now+21, 999)
	w.Leases = modelEachLease(w.Ring, min(w.Now+20, 999))
	return w
}

// play is a new run and what happens in it.
type play struct {
	ids    []int
	events []impl.Event
}

// pick returns one of several numbers.
func pick(random *spread, numbers ...int) int {
	return numbers[random.below(len(numbers))]
}

// likelyKind returns kinds of events that let many things happen. What there is most of depends on the seed.
func likelyKind(random *spread, seed int) int {
	kinds := []int{1, 2, 3, 4, 5, 6, 7, 7, 7, 8, 8, 9, 9, 10, 11, 11, 11, 11, 12, 12, 13, 14, 14, 14, 14}
	switch seed % 4 {
	case 0:
		kinds = append(kinds, 11, 11, 11, 11, 12, 12, 14, 14, 14, 14)
	case 1:
		kinds = append(kinds, 10, 10, 10, 8, 8, 8, 8)
	case 2:
		kinds = append(kinds, 1, 1, 1, 2, 2, 2, 3, 3, 4, 5, 5, 6, 6)
	case 3:
		kinds = append(slices.Repeat([]int{14}, 15), kinds...)
	}
	return pick(random, kinds...)
}

// likelyEvent returns an event of a kind, most of the time one whose condition holds in a run.
func likelyEvent(random *spread, w impl.World, kind int) impl.Event {
	ids, key := walkIds(w.Ring), random.below(64)
	if len(w.Items) > 0 && random.below(2) == 0 {
		key = pick(random, itemKeys(w.Items)...)
	}
	member, other, owner := pick(random, ids...), pick(random, ids...), modelKeyOwner(w, key)
	if random.below(8) == 0 {
		return event(kind, pick(random, member, key, -1, 64), pick(random, other, key, -1, 64), pick(random, other, 99, 100, -1))
	}
	switch kind {
	case 1:
		return event(kind, random.below(64), other)
	case 7:
		return event(kind, owner, key, other)
	case 8:
		return event(kind, member, key)
	case 11, 12:
		return event(kind, owner, key, random.below(100))
	}
	return event(kind, member, other)
}

// randomPlay returns a play of MaxPlay events. Time does not pass evenly in it: some leases expire.
func randomPlay(seed int) play {
	random := spread(seed)
	ids := startSets()[seed%len(startSets())]
	w, events := modelRun(ids), []impl.Event{}
	for len(events) < 80 {
		next := []impl.Event{likelyEvent(&random, w, likelyKind(&random, seed))}
		if next[0].Kind == 10 {
			next = slices.Repeat(next, pick(&random, 1, 2, 19, 20, 21))
		}
		for _, e := range next[:min(len(next), 80-len(events))] {
			w, events = modelDo(w, e), append(events, e)
		}
	}
	return play{ids, events}
}

// somePlays are shared by the tests, which do not change them.
var somePlays = sync.OnceValue(func() []play {
	var plays []play
	for seed := range 480 {
		plays = append(plays, randomPlay(seed))
	}
	return plays
})

// eachPlayed calls check with all events of these plays, the runs before them and the runs after them.
func eachPlayed(t *testing.T, check func(p play, number int, w impl.World, e impl.Event, got impl.World)) {
	t.Helper()
	for _, p := range somePlays() {
		w := newRun(t, p.ids)
		for number, e := range p.events {
			got := impl.WorldDo(w, e)
			check(p, number, w, e, got)
			w = got
		}
	}
}

// newRun returns a new run of nodes of which there must be one.
func newRun(t *testing.T, ids []int) impl.World {
	t.Helper()
	w, ok := impl.WorldNew(ids)
	if !ok {
		t.Fatalf("WorldNew(%v) fails", ids)
	}
	return w
}

// played returns the run after the events of a play, which must succeed.
func played(t *testing.T, ids []int, events ...impl.Event) impl.World {
	t.Helper()
	w, ok := impl.WorldPlay(ids, events)
	if !ok {
		t.Fatalf("WorldPlay(%v, %v) fails", ids, events)
	}
	return w
}

// deadNode returns a position that is not live.
func deadNode(ring []impl.Node) int {
	dead := 60
	for isLive(ring, dead) {
		dead = down(dead)
	}
	return dead
}

// sinceOf returns those of some keys that may be there since a scan began: they are not passed, or were told.
func sinceOf(keys []int, s impl.Scan) []int {
	return slices.DeleteFunc(slices.Clone(keys), func(key int) bool { return key < s.Next && !slices.Contains(s.Told, key) })
}

// mixedRun returns a valid run whose parts are combined by a number. Most of these runs do not arise from new ones: nodes without leases, leases of dead nodes and with late times, and scans of any progress.
func mixedRun(number int) impl.World {
	random := spread(number)
	rings, ends, keys := stepRings(), leaseEnds(), keyLists()[number%len(keyLists())]
	ring, now := rings[number*7%len(rings)], pick(&random, 0, 1, 20, 100, 978, 979, 980, 998, 999)
	w := impl.World{Now: now, Ring: ring, Scan: scansAt(random.below(65))[number%2]}
	if number%3 == 0 {
		w.Scan.Told = withoutKey(w.Scan.Told, random.below(64))
	}
	for _, end := range ends[number%len(ends)] {
		owner := pick(&random, append(walkIds(ring), deadNode(ring))...)
		until := pick(&random, now-1, now, now+1, now+10, now+20, now+21, 0, 999)
		w.Leases = append(w.Leases, lease(end, owner, min(max(until, 0), 999)))
	}
	for _, key := range keys {
		w.Items = append(w.Items, item(key, pick(&random, 0, 1, 42, 98, 99)))
	}
	w.Since = sinceOf(keys, w.Scan)
	if number%4 == 0 {
		w.Since = slices.DeleteFunc(w.Since, func(key int) bool { return key%3 == 0 })
	}
	return w
}

// someRuns are valid runs: mixed ones, and those of plays. They are shared by the tests, which do not change them.
var someRuns = sync.OnceValue(func() []impl.World {
	var runs []impl.World
	for number := range 400 {
		runs = append(runs, mixedRun(number))
	}
	for i, p := range somePlays() {
		w := modelRun(p.ids)
		for number, e := range p.events {
			if number%80 == i%80 {
				runs = append(runs, cloneRun(w))
			}
			w = modelDo(w, e)
		}
	}
	return runs
})

// nearEvents returns events of a kind whose numbers matter for a run.
func nearEvents(w impl.World, kind, seed int) []impl.Event {
	random, events := spread(seed), []impl.Event{}
	nodes, keys := append(walkIds(w.Ring), deadNode(w.Ring), -1, 64), append(itemKeys(w.Items), w.Scan.Next, 0, 63, -1, 64)
	for _, l := range w.Leases {
		keys = append(keys, l.End, up(l.End), down(l.End))
	}
	for _, n := range w.Ring {
		nodes = append(nodes, up(n.Id), n.After[0], n.After[1])
	}
	for range 12 {
		a, b, c := pick(&random, nodes...), pick(&random, keys...), pick(&random, append(walkIds(w.Ring), 0, 99, 100, -1)...)
		if owner := modelKeyOwner(w, b); owner != -1 && random.below(4) > 0 {
			a = owner
		}
		if kind >= 1 && kind <= 6 {
			live := slices.Repeat(walkIds(w.Ring), 3)
			a, b = pick(&random, append(live, nodes...)...), pick(&random, append(live, nodes...)...)
		}
		events = append(events, event(kind, a, b, c))
	}
	return events
}

// eachDo calls check with valid runs, events of these kinds, and the runs after them. It requires that many events change something, or that many do not if none may.
func eachDo(t *testing.T, kinds []int, check func(w impl.World, e impl.Event, got impl.World)) {
	t.Helper()
	for _, kind := range kinds {
		changes := 0
		for number, w := range someRuns() {
			for _, e := range nearEvents(w, kind, number) {
				got := impl.WorldDo(w, e)
				check(w, e, got)
				if !sameRun(got, w) {
					changes++
				}
			}
		}
		if known := kind >= 1 && kind <= 14; known && changes < 50 || !known && changes > 0 {
			t.Errorf("%d events of kind %d change something", changes, kind)
		}
	}
}

// allKinds are all kinds of events, and some numbers that are none.
func allKinds() []int {
	return []int{-1, 0, 1, 2, 3, 4, 5, 6, 7, 8, 9, 10, 11, 12, 13, 14, 15}
}

// checkDo requires what a run becomes by an event.
func checkDo(t *testing.T, name string, w impl.World, e impl.Event, want impl.World) {
	t.Helper()
	if got := impl.WorldDo(w, e); !sameRun(got, want) {
		t.Fatalf("%s: WorldDo(%v, %v) = %v, want %v", name, w, e, got, want)
	}
}
