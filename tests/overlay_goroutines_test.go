package tests

import (
	"slices"
	"sync"
	"testing"

	"loop.example/ringoverlay/impl"
)

func TestRunGoroutinesEnd(t *testing.T) {
	onProcessors(1, func() {
		for _, w := range memoryRuns() {
			for _, call := range runCalls() {
				checkJoined(t, call.name, func() { call.do(w) })
			}
		}
		p := somePlays()[0]
		checkJoined(t, "WorldPlay", func() { impl.WorldPlay(p.ids, p.events) })
	})
}

// Calls that share their run do not disturb each other, and do not wait for each other without end.
func TestRunGoroutinesShare(t *testing.T) {
	for _, w := range memoryRuns() {
		owner, valid := impl.WorldOwner(w, 20), impl.WorldValid(w)
		for _, call := range runCalls() {
			want := call.do(w)
			results := make([]impl.World, 4)
			same := make([]bool, len(results))
			var calls sync.WaitGroup
			for i := range results {
				calls.Go(func() {
					results[i] = call.do(w)
					same[i] = impl.WorldOwner(w, 20) == owner && impl.WorldValid(w) == valid
				})
			}
			calls.Wait()
			if slices.Contains(same, false) || slices.ContainsFunc(results, func(got impl.World) bool { return !sameRun(got, want) }) {
				t.Fatalf("%s(%v) = %v, and %v among other calls", call.name, w, want, results)
			}
		}
	}
}

// Plays that go on at the same time, with the same events and with others, have runs of their own.
func TestRunGoroutinesPlays(t *testing.T) {
	plays := slices.Repeat(somePlays()[:16], 2)
	results := make([]impl.World, len(plays))
	var calls sync.WaitGroup
	for i, p := range plays {
		calls.Go(func() { results[i], _ = impl.WorldPlay(p.ids, p.events) })
	}
	calls.Wait()
	for i, p := range plays {
		if want := played(t, p.ids, p.events...); !sameRun(results[i], want) {
			t.Fatalf("WorldPlay(%v, %v) = %v, and %v among other calls", p.ids, p.events, want, results[i])
		}
	}
}
