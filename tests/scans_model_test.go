package tests

import (
	"math"
	"slices"
	"sync"

	"loop.example/ringoverlay/impl"
)

// notNexts are numbers that no scan has as its next position, the nearest and the farthest ones among them.
var notNexts = []int{-1, impl.Circle + 1, impl.Circle + 2, -impl.Circle, 2 * impl.Circle, math.MinInt, math.MinInt + 1, math.MaxInt - 1, math.MaxInt}

func scan(next int, told ...int) impl.Scan {
	return impl.Scan{Next: next, Told: told}
}

func sameScan(a, b impl.Scan) bool {
	return a.Next == b.Next && slices.Equal(a.Told, b.Told)
}

// below returns the numbers of a list that are less than a limit.
func below(list []int, limit int) []int {
	return slices.DeleteFunc(slices.Clone(list), func(n int) bool { return n >= limit })
}

// modelScanValid walks along the circle and looks for the told keys in turn; they are valid if all of them are found before Next.
func modelScanValid(s impl.Scan) bool {
	if !slices.Contains(allKeys(), s.Next) && s.Next != 64 {
		return false
	}
	found := 0
	for p := range s.Next {
		if found < len(s.Told) && s.Told[found] == p {
			found++
		}
	}
	return found == len(s.Told)
}

// modelScanStep walks up from Next, and stops behind an End or behind the last position of the circle.
func modelScanStep(list []impl.Lease, keys []int, s impl.Scan) (impl.Scan, bool) {
	if s.Next == 64 {
		return s, false
	}
	got := scan(s.Next, s.Told...)
	for p := s.Next; ; p++ {
		if slices.Contains(keys, p) {
			got.Told = append(slices.Clone(got.Told), p)
		}
		got.Next = p + 1
		if p == 63 || hasEnd(list, p) {
			return got, true
		}
	}
}

// modelSteps returns the number of steps of a whole scan: one for each lease, and one for what is above the last End.
func modelSteps(list []impl.Lease) int {
	if hasEnd(list, 63) {
		return len(list)
	}
	return len(list) + 1
}

// keyLists are keys of all kinds: none, all, single ones at both ends and in between, neighbours, those at the ends of some leases, and spread ones.
var keyLists = sync.OnceValue(func() [][]int {
	all := allKeys()
	lists := [][]int{nil, {}, {0}, {1}, {30}, {62}, {63}, {0, 63}, {20, 21}, {50, 51}, {19, 20, 21, 22}, {0, 1, 62, 63}, mostEnds(), all, all[1:], all[:63], all[20:51]}
	for i := range 8 {
		random := spread(i)
		lists = append(lists, slices.DeleteFunc(allKeys(), func(int) bool { return random.below(8) <= i }))
	}
	return lists
})

// scanLists are leases with ends of all kinds, and all single ones.
var scanLists = sync.OnceValue(func() [][]impl.Lease {
	lists := fewerLists()
	for end := range impl.Circle {
		lists = append(lists, []impl.Lease{lease(end, 7, 10)})
	}
	return lists
})

// scansAt returns scans with this next position, with no told keys, with all that are possible, and with some.
func scansAt(next int) []impl.Scan {
	scans := []impl.Scan{scan(next), scan(next, below(allKeys(), next)...)}
	for _, keys := range [][]int{{0}, {next - 1}, {20, 21, 50}, keyLists()[len(keyLists())-4]} {
		if told := below(keys, next); len(told) > 0 && told[0] >= 0 {
			scans = append(scans, scan(next, told...))
		}
	}
	return scans
}

// eachScan calls check with leases, keys and scans that are not complete.
func eachScan(check func(list []impl.Lease, keys []int, s impl.Scan)) {
	for next := range impl.Circle {
		scans := scansAt(next)
		for i, list := range scanLists() {
			for j, keys := range keyLists() {
				check(list, keys, scans[(i+j)%len(scans)])
			}
		}
	}
}

// eachWhole calls check with leases and keys of whole scans: also with all pairs of ends.
func eachWhole(check func(list []impl.Lease, keys []int)) {
	for _, list := range leaseLists() {
		for _, keys := range keyLists() {
			check(list, keys)
		}
	}
	for first := range impl.Circle {
		check([]impl.Lease{lease(first, 7, 10)}, allKeys())
		for last := first + 1; last < impl.Circle; last++ {
			list := []impl.Lease{lease(first, 7, 10), lease(last, 40, 11)}
			check(list, allKeys())
			check(list, nil)
			check(list, []int{first, last})
		}
	}
}

// moment is what a step of a scan finds.
type moment struct {
	list []impl.Lease
	keys []int
}

// history has what the steps of a scan find, in turn. Steps that it has not are like the last one.
type history []moment

func (h history) at(step int) moment {
	return h[min(step, len(h)-1)]
}
