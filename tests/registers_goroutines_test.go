package tests

import (
	"runtime"
	"slices"
	"sync"
	"testing"

	"loop.example/ringoverlay/impl"
)

// onProcessors runs a test with a number of processors.
func onProcessors(number int, do func()) {
	defer runtime.GOMAXPROCS(runtime.GOMAXPROCS(number))
	do()
}

// letOthersRun gives goroutines that are left the time to end, or to change something.
func letOthersRun() {
	for range 10 {
		runtime.Gosched()
	}
}

// checkJoined requires, on one processor, that no goroutine is left when a call returns. There, a goroutine that the call does not wait for has not even begun, and one that it does wait for has ended, unless it is interrupted just before its end; so some of the calls may have one left.
func checkJoined(t *testing.T, name string, do func()) {
	t.Helper()
	left := 0
	for range 9 {
		letOthersRun()
		before := runtime.NumGoroutine()
		do()
		if runtime.NumGoroutine() > before {
			left++
		}
	}
	if left > 4 {
		t.Errorf("%s leaves goroutines in %d of 9 calls", name, left)
	}
}

func TestRegisterGoroutinesEnd(t *testing.T) {
	onProcessors(1, func() {
		for _, list := range memoryRegisters() {
			for _, set := range append(memoryIndexSets(), everyIndex(len(list))) {
				checkJoined(t, "RegisterLatest", func() { impl.RegisterLatest(list, set) })
				for _, call := range registerCalls() {
					checkJoined(t, call.name, func() { call.do(list, set, set) })
				}
			}
		}
	})
}

// After a call nothing reads the arguments or writes to the result: what they are filled with does not show in each other.
func TestRegisterGoroutinesSilent(t *testing.T) {
	for _, processors := range []int{1, 2, runtime.NumCPU()} {
		onProcessors(processors, func() {
			for _, good := range goodRegisters() {
				for _, call := range registerCalls() {
					list, some, other := slices.Clone(good), everyIndex(len(good)), everyIndex(len(good))
					got := call.do(list, some, other)
					want := slices.Clone(got)
					overwrite(list, spareReplica)
					overwrite(some, -99)
					overwrite(other, -99)
					letOthersRun()
					if !slices.Equal(got, want) || slices.ContainsFunc(list, func(x impl.Replica) bool { return x != spareReplica }) {
						t.Fatalf("%s of %v: %v becomes %v after the call, and the argument %v", call.name, good, want, got, list)
					}
				}
			}
		})
	}
}

// The answers do not depend on how many processors there are, and so not on the order in which replicas answer.
func TestRegisterGoroutinesOrder(t *testing.T) {
	for _, processors := range []int{1, 2, runtime.NumCPU()} {
		onProcessors(processors, func() {
			for _, list := range everyRegister(5) {
				for _, some := range majorities(len(list)) {
					if got, ok := impl.RegisterLatest(list, some); !ok || got != modelLatest(list, some) {
						t.Fatalf("on %d processors RegisterLatest(%v, %v) = %v, %v", processors, list, some, got, ok)
					}
				}
			}
		})
	}
}

// Calls that share their arguments do not disturb each other.
func TestRegisterGoroutinesShare(t *testing.T) {
	for _, list := range goodRegisters() {
		all := everyIndex(len(list))
		for _, call := range registerCalls() {
			want := call.do(list, all, all)
			results := make([][]impl.Replica, 8)
			var calls sync.WaitGroup
			for i := range results {
				calls.Go(func() { results[i] = call.do(list, all, all) })
			}
			calls.Wait()
			for _, got := range results {
				if !slices.Equal(got, want) {
					t.Fatalf("%s of %v is %v, and %v among other calls", call.name, list, want, got)
				}
			}
		}
	}
}
