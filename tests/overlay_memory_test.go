package tests

import (
	"slices"
	"testing"

	"loop.example/ringoverlay/impl"
)

// piece is the whole memory of one list of a run, which can be marked.
type piece struct {
	name  string
	mark  func(with int)
	holds func(with int) bool
}

// pieceOf returns the memory of a list up to its capacity, where a mark is an element made from a number.
func pieceOf[E any](name string, list []E, made func(with int) E, same func(a, b E) bool) piece {
	return piece{
		name: name,
		mark: func(with int) { overwrite(list, made(with)) },
		holds: func(with int) bool {
			return !slices.ContainsFunc(list[:cap(list)], func(e E) bool { return !same(e, made(with)) })
		},
	}
}

func equal[E comparable](a, b E) bool {
	return a == b
}

// piecesOf returns the memory of all lists of a run. Those of the nodes come first: to mark the ring is to forget them.
func piecesOf(of string, w impl.World) []piece {
	number := func(with int) int { return with }
	var pieces []piece
	for _, n := range w.Ring {
		pieces = append(pieces, pieceOf(of+" After", n.After, number, equal))
	}
	return append(pieces,
		pieceOf(of+" Ring", w.Ring, func(with int) impl.Node { return node(with, with) }, sameNode),
		pieceOf(of+" Leases", w.Leases, func(with int) impl.Lease { return lease(with, with, with) }, equal),
		pieceOf(of+" Items", w.Items, func(with int) impl.Item { return item(with, with) }, equal),
		pieceOf(of+" Told", w.Scan.Told, number, equal),
		pieceOf(of+" Since", w.Since, number, equal))
}

// checkApart marks all pieces, and then requires that none has the mark of another one.
func checkApart(t *testing.T, name string, pieces []piece) {
	t.Helper()
	for i, p := range pieces {
		p.mark(1000 + i)
	}
	for i, p := range pieces {
		if !p.holds(1000 + i) {
			t.Fatalf("%s: the memory of %s is shared", name, p.name)
		}
	}
}

// roomyRun returns a copy of a run whose lists have free capacity behind them.
func roomyRun(original impl.World) impl.World {
	w := original
	w.Ring, _ = spacious(original.Ring, node(-99, -99))
	for i, n := range original.Ring {
		w.Ring[i].After, _ = spacious(n.After, -99)
	}
	w.Leases, _ = spacious(original.Leases, spareLease)
	w.Items, _ = spacious(original.Items, item(-99, -99))
	w.Scan.Told, _ = spacious(original.Scan.Told, -99)
	w.Since, _ = spacious(original.Since, -99)
	return w
}

// wholeRun returns a copy of a run whose lists go on up to their capacity.
func wholeRun(w impl.World) impl.World {
	w.Ring = slices.Clone(w.Ring[:cap(w.Ring)])
	for i, n := range w.Ring {
		w.Ring[i].After = n.After[:cap(n.After)]
	}
	w.Leases, w.Items = w.Leases[:cap(w.Leases)], w.Items[:cap(w.Items)]
	w.Scan.Told, w.Since = w.Scan.Told[:cap(w.Scan.Told)], w.Since[:cap(w.Since)]
	return cloneRun(w)
}

// runCall is a call that returns a run.
type runCall struct {
	name string
	do   func(w impl.World) impl.World
}

// runCalls returns WorldCalm and events of all kinds, of which some change something, some fail and some are of unknown kinds.
func runCalls() []runCall {
	calls := []runCall{{"WorldCalm", impl.WorldCalm}}
	for _, e := range []impl.Event{event(1, 10, 5), event(1, 20, 5), event(1, 60, 57), event(2, 20), event(2, 60), event(3, 5), event(4, 5), event(5, 5, 20), event(6, 5, 50), event(6, 5, 60),
		event(7, 50, 45, 20), event(7, 50, 50, 20), event(7, 5, 45, 20), event(7, 57, 60, 3), event(8, 50, 25), event(8, 50, 20), event(8, 3, 5), event(9, 5), event(9, 35), event(9, 60),
		event(10), event(11, 20, 12, 7), event(11, 20, 7, 9), event(11, 5, 7, 9), event(11, 5, 63, 100), event(11, 3, 3, 9), event(12, 20, 7), event(12, 20, 12), event(12, 5, 52), event(12, 3, 3), event(13), event(14), event(0), event(15, 5, 5, 5)} {
		calls = append(calls, runCall{"WorldDo", func(w impl.World) impl.World { return impl.WorldDo(w, e) }})
	}
	return calls
}

// memoryRuns are runs of all kinds: new, full and damaged ones, some without items or told keys, one in which all keys are told, and some that are invalid.
func memoryRuns() []impl.World {
	told := fullRun()
	told.Scan = scan(64, allKeys()...)
	runs := append(goodRuns(), told, impl.World{}, altered(setRing(changed(0, node(5, 60, 35, 50)))), altered(setRing(without(fourNodes(), 1))),
		altered(func(w *impl.World) { w.Scan, w.Since = impl.Scan{}, nil }), altered(func(w *impl.World) { w.Items, w.Since = nil, nil }), altered(func(w *impl.World) { w.Since = []int{4} }), altered(func(w *impl.World) { w.Now = -1 }))
	return append(runs, someRuns()[:40]...)
}

func TestRunMemory(t *testing.T) {
	for _, original := range memoryRuns() {
		for _, call := range runCalls() {
			w := roomyRun(original)
			first, second := call.do(w), call.do(w)
			if !sameRun(first, second) {
				t.Fatalf("%s(%v) = %v, and then %v", call.name, original, first, second)
			}
			want := cloneRun(first)
			checkApart(t, call.name, slices.Concat(piecesOf("the argument:", w), piecesOf("a result:", first)))
			if !sameRun(second, want) {
				t.Fatalf("%s(%v): two results share memory, or one with the argument", call.name, original)
			}
			checkApart(t, call.name, slices.Concat(piecesOf("a result:", first), piecesOf("another result:", second)))
		}
	}
}

// The lists of an argument may share memory; those of the result do not, and the argument stays as it is.
func TestRunSharedArgument(t *testing.T) {
	all := allKeys()
	original := impl.World{Now: 100, Ring: fourNodes(), Leases: midRun().Leases, Items: fullRun().Items, Scan: scan(30, all[:30]...), Since: all}
	after := []int{20, 35, 50, 5, 20}
	for i := range original.Ring {
		original.Ring[i].After = []int{after[i], after[i+1]}
	}
	for _, call := range runCalls() {
		w := cloneRun(original)
		for i := range w.Ring {
			w.Ring[i].After = after[i : i+2]
		}
		w.Since = slices.Clone(all)
		w.Scan.Told = w.Since[:30]
		before := cloneRun(w)
		got := call.do(w)
		if want := call.do(original); !sameRun(got, want) || !sameRun(w, before) {
			t.Fatalf("%s(%v) = %v, want %v; the argument is %v", call.name, before, got, want, w)
		}
		checkApart(t, call.name, piecesOf("the result:", got))
		if !sameRun(w, before) {
			t.Fatalf("%s(%v): the result shares memory with the argument", call.name, before)
		}
	}
}

func TestRunUnmodified(t *testing.T) {
	for _, original := range memoryRuns() {
		calls := append(runCalls(),
			runCall{"WorldValid", func(w impl.World) impl.World { impl.WorldValid(w); return w }},
			runCall{"WorldOwner", func(w impl.World) impl.World { impl.WorldOwner(w, 20); impl.WorldOwner(w, -1); return w }})
		for _, call := range calls {
			w := roomyRun(original)
			want := wholeRun(w)
			call.do(w)
			if got := wholeRun(w); !sameRun(got, want) || !sameRun(w, original) {
				t.Fatalf("%s changed %v to %v", call.name, want, got)
			}
		}
	}
}

// The runs of the events of a play have memory of their own: what is done with that of one does not show in another.
func TestRunsMemory(t *testing.T) {
	for _, p := range somePlays()[:24] {
		runs := []impl.World{newRun(t, p.ids)}
		for _, e := range p.events {
			runs = append(runs, impl.WorldDo(runs[len(runs)-1], e))
		}
		var pieces []piece
		for _, w := range runs {
			pieces = append(pieces, piecesOf("a run of a play:", w)...)
		}
		checkApart(t, "WorldDo", pieces)
	}
}

func TestNewRunMemory(t *testing.T) {
	for _, ids := range [][]int{{5, 20, 35}, {5, 20, 35, 50}, walkIds(mostNodes()), {5, 20}, {20, 5, 35}, nil} {
		short, whole := spacious(ids, -99)
		before := slices.Clone(whole)
		first, ok := impl.WorldNew(short)
		second, _ := impl.WorldNew(short)
		want := cloneRun(second)
		checkApart(t, "WorldNew", piecesOf("a result:", first))
		if ok != (len(want.Ring) > 0) || !sameRun(second, want) || !slices.Equal(whole, before) {
			t.Fatalf("WorldNew(%v): two results share memory, or one with the argument", ids)
		}
		overwrite(whole, -99)
		if !sameRun(second, want) {
			t.Fatalf("WorldNew(%v): the result shares memory with the argument", ids)
		}
	}
}

func TestPlayMemory(t *testing.T) {
	for _, p := range append(slices.Clone(somePlays()[:24]), play{[]int{5, 20, 35}, nil}, play{[]int{5, 20}, somePlays()[0].events}, play{[]int{5, 20, 35}, make([]impl.Event, 81)}) {
		ids, wholeIds := spacious(p.ids, -99)
		events, wholeEvents := spacious(p.events, event(-99, -99, -99, -99))
		beforeIds, beforeEvents := slices.Clone(wholeIds), slices.Clone(wholeEvents)
		first, _ := impl.WorldPlay(ids, events)
		second, _ := impl.WorldPlay(ids, events)
		want := cloneRun(second)
		checkApart(t, "WorldPlay", piecesOf("a result:", first))
		if !sameRun(second, want) || !slices.Equal(wholeIds, beforeIds) || !slices.Equal(wholeEvents, beforeEvents) {
			t.Fatalf("WorldPlay(%v, %v): two results share memory, or one with an argument", p.ids, p.events)
		}
		overwrite(wholeIds, -99)
		overwrite(wholeEvents, event(-99))
		if !sameRun(second, want) {
			t.Fatalf("WorldPlay(%v, %v): the result shares memory with an argument", p.ids, p.events)
		}
	}
}

// The zero values of invalid runs are results too.
func TestRunEmptyMemory(t *testing.T) {
	bad := altered(func(w *impl.World) { w.Now = 1000 })
	for _, do := range []func() impl.World{
		func() impl.World { return impl.WorldDo(bad, event(10)) },
		func() impl.World { return impl.WorldCalm(bad) },
		func() impl.World { w, _ := impl.WorldNew(nil); return w },
		func() impl.World { w, _ := impl.WorldPlay(nil, nil); return w },
		func() impl.World { return modelRun([]int{5, 20, 35}) },
		func() impl.World { w, _ := impl.WorldNew([]int{5, 20, 35}); return w },
		func() impl.World { return impl.WorldDo(modelRun([]int{5, 20, 35}), event(13)) },
	} {
		checkFresh(t, "Leases", spareLease, lease(-98, -98, -98), func() []impl.Lease { return do().Leases })
		checkFresh(t, "Items", item(-99, -99), item(-98, -98), func() []impl.Item { return do().Items })
		checkFresh(t, "Told", -99, -98, func() []int { return do().Scan.Told })
		checkFresh(t, "Since", -99, -98, func() []int { return do().Since })
		first, second := append(do().Ring, node(-99, -99)), append(do().Ring, node(-98, -98))
		if first[len(first)-1].Id != -99 || second[len(second)-1].Id != -98 {
			t.Errorf("two results share the memory behind the ring")
		}
	}
}
