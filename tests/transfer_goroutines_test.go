package tests

import (
	"runtime"
	"slices"
	"sync"
	"testing"
)

func TestTransferGoroutinesEnd(t *testing.T) {
	onProcessors(1, func() {
		for _, list := range memoryItems() {
			for _, call := range transferCalls() {
				checkJoined(t, call.name, func() { call.do(list) })
			}
		}
	})
}

// After a call nothing reads the argument or writes to the result: what they are filled with does not show in each other.
func TestTransferGoroutinesSilent(t *testing.T) {
	for _, processors := range []int{1, 2, runtime.NumCPU()} {
		onProcessors(processors, func() {
			for _, original := range memoryItems() {
				for _, call := range transferCalls() {
					list := slices.Clone(original)
					got := call.do(list)
					want := slices.Clone(got)
					overwrite(list, -99)
					letOthersRun()
					if !slices.Equal(got, want) || slices.ContainsFunc(list, func(n int) bool { return n != -99 }) {
						t.Fatalf("%s of %v: %v becomes %v after the call, and the argument %v", call.name, original, want, got, list)
					}
				}
			}
		})
	}
}

// Calls that share their argument do not disturb each other.
func TestTransferGoroutinesShare(t *testing.T) {
	for _, list := range memoryItems() {
		for _, call := range transferCalls() {
			want := call.do(list)
			results := make([][]int, 4)
			var calls sync.WaitGroup
			for i := range results {
				calls.Go(func() { results[i] = call.do(list) })
			}
			calls.Wait()
			for _, got := range results {
				if !slices.Equal(got, want) {
					t.Fatalf("%s of %v is %v, and %v among other calls", call.name, list, want, got)
				}
			}
		}
	}
}
