package tests

import (
	"slices"
	"testing"

	"loop.example/ringoverlay/impl"
)

// memoryLeases has leases of several sizes, and lists that are invalid.
func memoryLeases() [][]impl.Lease {
	return append(goodLeases(), []impl.Lease{lease(0, 7, 10), lease(63, 40, 11)}, nil, []impl.Lease{lease(50, 7, 10), lease(20, 7, 10)}, []impl.Lease{lease(20, 7, 10), lease(50, impl.Circle, 10)})
}

// memoryKeys has keys that are told by some steps and not by others, keys that may have been told, and lists that are not keys.
func memoryKeys() [][]int {
	return [][]int{nil, {}, {0}, {3, 20}, {3, 30, 60}, {21, 51, 63}, {63}, allKeys()[:21], allKeys(), {30, 3}, {-1}, {3, impl.Circle}}
}

// scanNexts are next positions in all ranges, that of a complete scan, and numbers that are none.
func scanNexts() []int {
	return []int{-1, 0, 1, 20, 21, 51, 63, 64, 65}
}

// The told keys of a result share no memory with the keys, nor with those that were told before, also if the step adds none and if it fails.
func TestScanStepMemory(t *testing.T) {
	for _, list := range memoryLeases() {
		for _, next := range scanNexts() {
			for _, fixed := range memoryKeys() {
				for _, original := range memoryKeys() {
					checkMemory(t, "ScanStep, keys", original, -99, func(keys []int) []int {
						got, _ := impl.ScanStep(list, keys, scan(next, fixed...))
						return got.Told
					})
					checkMemory(t, "ScanStep, told keys", original, -99, func(told []int) []int {
						got, _ := impl.ScanStep(list, fixed, scan(next, told...))
						return got.Told
					})
				}
			}
		}
	}
}

func TestScanStepFresh(t *testing.T) {
	for _, list := range memoryLeases() {
		for _, next := range scanNexts() {
			for _, keys := range memoryKeys() {
				for _, told := range memoryKeys() {
					checkFresh(t, "ScanStep", -98, -99, func() []int {
						got, _ := impl.ScanStep(list, keys, scan(next, told...))
						return got.Told
					})
				}
			}
		}
	}
}

func TestScanAllMemory(t *testing.T) {
	for _, list := range memoryLeases() {
		for _, original := range memoryKeys() {
			all := func(keys []int) []int {
				got, _ := impl.ScanAll(list, keys)
				return got
			}
			checkMemory(t, "ScanAll", original, -99, all)
			checkFresh(t, "ScanAll", -98, -99, func() []int { return all(original) })
		}
	}
}

// The empty lists of invalid arguments, of scans that have told nothing and of leases without keys are results too.
func TestScansEmptyMemory(t *testing.T) {
	for _, list := range memoryLeases() {
		for _, next := range scanNexts() {
			for _, keys := range [][]int{nil, {}, {30, 3}} {
				step := func(told []int) []int {
					got, _ := impl.ScanStep(list, keys, scan(next, told...))
					return got.Told
				}
				checkEmptyMemory(t, "ScanStep", nil, -98, -99, step)
				checkEmptyMemory(t, "ScanStep", []int{}, -98, -99, step)
				checkEmptyMemory(t, "ScanStep", make([]int, 0, 5), -98, -99, step)
				checkEmptyMemory(t, "ScanAll", keys, -98, -99, func(keys []int) []int {
					got, _ := impl.ScanAll(list, keys)
					return got
				})
			}
		}
	}
}

// The steps of a scan have told keys in memory of their own: what is done with those of one does not show in another.
func TestScanStepsMemory(t *testing.T) {
	steps, copies := []impl.Scan{{}}, []impl.Scan{{}}
	for range impl.MaxLeases + 1 {
		got := scanStep(t, fullLeases(), allKeys(), steps[len(steps)-1])
		steps, copies = append(steps, got), append(copies, scan(got.Next, slices.Clone(got.Told)...))
	}
	for i := range steps {
		overwrite(steps[i].Told, -99)
		for j := i + 1; j < len(steps); j++ {
			if !sameScan(steps[j], copies[j]) {
				t.Fatalf("step %d shares memory with step %d: %v, before %v", j, i, steps[j], copies[j])
			}
		}
	}
}

// The keys and the told keys may share memory; what counts is what they are.
func TestScanStepSharingMemory(t *testing.T) {
	all := allKeys()
	for next := range impl.Circle {
		before := slices.Clone(all)
		got, ok := impl.ScanStep(fullLeases(), all, scan(next, all[:next]...))
		want, _ := modelScanStep(fullLeases(), before, scan(next, before[:next]...))
		if !ok || !sameScan(got, want) || !slices.Equal(all, before) {
			t.Fatalf("ScanStep(%v, %v, %v) = %v, %v, want %v", fullLeases(), before, scan(next, before[:next]...), got, ok, want)
		}
	}
}

func TestScansUnmodified(t *testing.T) {
	for _, list := range memoryLeases() {
		for _, keys := range memoryKeys() {
			checkUnmodified(t, "ScanAll, leases", list, spareLease, func(list []impl.Lease) { impl.ScanAll(list, keys) })
			checkUnmodified(t, "ScanAll, keys", keys, -99, func(keys []int) { impl.ScanAll(list, keys) })
			for _, next := range scanNexts() {
				for _, told := range memoryKeys() {
					s := scan(next, told...)
					checkUnmodified(t, "ScanStep, leases", list, spareLease, func(list []impl.Lease) { impl.ScanStep(list, keys, s) })
					checkUnmodified(t, "ScanStep, keys", keys, -99, func(keys []int) { impl.ScanStep(list, keys, s) })
					checkUnmodified(t, "ScanStep, told keys", told, -99, func(told []int) { impl.ScanStep(list, keys, scan(next, told...)) })
				}
			}
		}
	}
	for _, told := range memoryKeys() {
		for _, next := range scanNexts() {
			checkUnmodified(t, "ScanValid", told, -99, func(told []int) { impl.ScanValid(scan(next, told...)) })
			checkUnmodified(t, "ScanDone", told, -99, func(told []int) { impl.ScanDone(scan(next, told...)) })
		}
	}
}
