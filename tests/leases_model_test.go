package tests

import (
	"math"
	"slices"
	"sync"
	"testing"

	"loop.example/ringoverlay/impl"
)

// notTimes are numbers that are not times, the nearest and the farthest ones among them.
var notTimes = []int{-1, impl.MaxTime + 1, impl.MaxTime + 2, -impl.MaxTime, math.MinInt, math.MinInt + 1, math.MaxInt - 1, math.MaxInt}

func lease(end, owner, until int) impl.Lease {
	return impl.Lease{End: end, Owner: owner, Until: until}
}

// leases gives each End an owner and a time; both lists start again when they are used up.
func leases(ends, owners, untils []int) []impl.Lease {
	list := []impl.Lease{}
	for i, end := range ends {
		list = append(list, lease(end, owners[i%len(owners)], untils[i%len(untils)]))
	}
	return list
}

// mostEnds returns MaxLeases ends, and the range of the first one has the positions from 61 on and 0 to 3.
func mostEnds() []int {
	return []int{3, 4, 5, 11, 18, 25, 30, 37, 41, 50, 59, 60}
}

// leaseEnds returns ends of all sizes: single ones, neighbouring and spread ones, with and without 0 and the highest position.
func leaseEnds() [][]int {
	return [][]int{{0}, {1}, {30}, {62}, {63}, {0, 1}, {0, 63}, {62, 63}, {20, 50}, {31, 32}, {0, 31, 63}, {5, 20, 35, 50}, {0, 1, 2, 61, 62, 63}, {1, 10, 11, 12, 40, 62},
		{7, 15, 23, 31, 39, 47, 55, 63}, {0, 6, 12, 18, 24, 30, 36, 42, 48, 54, 60}, {2, 3, 5, 7, 11, 13, 17, 19, 23, 29, 31}, mostEnds(),
		{0, 1, 2, 3, 4, 5, 6, 7, 8, 9, 10, 11}, {52, 53, 54, 55, 56, 57, 58, 59, 60, 61, 62, 63}, {0, 5, 11, 17, 22, 28, 34, 39, 45, 51, 57, 63}}
}

// leaseLists returns leases with these ends: of one owner, of several in turn, and of neighbours with the same owner or time. They are shared by the tests, which do not change them.
var leaseLists = sync.OnceValue(func() [][]impl.Lease {
	var lists [][]impl.Lease
	for _, ends := range leaseEnds() {
		for _, owners := range [][]int{{7}, {7, 40}, {7, 7, 40, 40, 40}, {63, 7, 0, 7}} {
			for _, untils := range [][]int{{10}, {9, 10, 11}, {0, 0, 0, 999, 999}} {
				lists = append(lists, leases(ends, owners, untils))
			}
		}
	}
	return lists
})

// fewerLists returns some of these lists, of each size, owners and times.
func fewerLists() [][]impl.Lease {
	var lists [][]impl.Lease
	for i, list := range leaseLists() {
		if i%5 == 0 {
			lists = append(lists, list)
		}
	}
	return lists
}

// shortLists calls check with all lists of 1 to 5 leases of two nodes and two times.
func shortLists(check func(list []impl.Lease)) {
	kinds := []impl.Lease{lease(0, 7, 10), lease(0, 7, 11), lease(0, 40, 10), lease(0, 40, 11)}
	var extend func(list []impl.Lease)
	extend = func(list []impl.Lease) {
		if len(list) > 0 {
			check(slices.Clone(list))
		}
		if len(list) == 5 {
			return
		}
		for _, l := range kinds {
			l.End = []int{0, 1, 20, 62, 63}[len(list)]
			extend(append(slices.Clone(list), l))
		}
	}
	extend(nil)
}

// walkLease returns the index of the lease whose End is reached first when going upward from a key.
func walkLease(list []impl.Lease, key int) int {
	for p := key; ; p = up(p) {
		if i := slices.IndexFunc(list, func(l impl.Lease) bool { return l.End == p }); i >= 0 {
			return i
		}
	}
}

// modelHand puts the part among the leases by its End, where it may replace one.
func modelHand(list []impl.Lease, from, at, to, until int) ([]impl.Lease, bool) {
	if list[walkLease(list, at)].Owner != from {
		return list, false
	}
	result := []impl.Lease{}
	for p := range impl.Circle {
		if p == at {
			result = append(result, lease(at, to, until))
		} else if l := list[walkLease(list, p)]; l.End == p {
			result = append(result, l)
		}
	}
	if len(result) > 12 {
		return list, false
	}
	return result, true
}

func modelTake(list []impl.Lease, key, to, now, until int) ([]impl.Lease, bool) {
	result := slices.Clone(list)
	l := &result[walkLease(list, key)]
	if l.Until >= now {
		return list, false
	}
	*l = lease(l.End, to, until)
	return result, true
}

func modelRenew(list []impl.Lease, owner, now, until int) ([]impl.Lease, int) {
	result := []impl.Lease{}
	count := 0
	for _, l := range list {
		if l.Owner == owner && now <= l.Until && l.Until < until {
			l = lease(l.End, owner, until)
			count++
		}
		result = append(result, l)
	}
	return result, count
}

// modelMerge lets each lease grow by those that follow it.
func modelMerge(list []impl.Lease) []impl.Lease {
	result := []impl.Lease{}
	for _, l := range list {
		last := len(result) - 1
		if last >= 0 && result[last].Owner == l.Owner && result[last].Until == l.Until {
			result[last].End = l.End
		} else {
			result = append(result, l)
		}
	}
	return result
}

func modelKeys(list []impl.Lease, owner int) int {
	keys := 0
	for p := range impl.Circle {
		if list[walkLease(list, p)].Owner == owner {
			keys++
		}
	}
	return keys
}

// eachHeld calls check for all lists and keys.
func eachHeld(check func(list []impl.Lease, key int)) {
	for _, list := range leaseLists() {
		for key := range impl.Circle {
			check(list, key)
		}
	}
}

// eachHand calls check for some lists, all keys, and the owners and other nodes on both sides.
func eachHand(check func(list []impl.Lease, from, at, to, until int)) {
	for _, list := range fewerLists() {
		for at := range impl.Circle {
			for _, from := range []int{0, 7, 40, 63, 8} {
				for _, to := range []int{7, 40, 12} {
					check(list, from, at, to, 10)
				}
				check(list, from, at, 0, 0)
				check(list, from, at, 63, impl.MaxTime)
			}
		}
	}
}

// eachTake calls check for all lists and keys and times around those of the leases.
func eachTake(check func(list []impl.Lease, key, to, now, until int)) {
	eachHeld(func(list []impl.Lease, key int) {
		for _, now := range []int{0, 1, 9, 10, 11, 12, impl.MaxTime - 1, impl.MaxTime} {
			check(list, key, 12, now, min(now+20, impl.MaxTime))
		}
		check(list, key, 7, 11, 0)
		check(list, key, 40, impl.MaxTime, 10)
	})
}

// eachRenew calls check for all lists and pairs of times around those of the leases.
func eachRenew(check func(list []impl.Lease, owner, now, until int)) {
	times := []int{0, 1, 8, 9, 10, 11, 12, impl.MaxTime - 1, impl.MaxTime}
	for _, list := range leaseLists() {
		for _, owner := range []int{0, 7, 40, 63, 8} {
			for _, now := range times {
				for _, until := range times {
					check(list, owner, now, until)
				}
			}
		}
	}
}

// heldBy asks LeaseOf for each key; the End of each answer is set to 0, so that only the owner and the time of a key count.
func heldBy(t *testing.T, list []impl.Lease) [impl.Circle]impl.Lease {
	t.Helper()
	var held [impl.Circle]impl.Lease
	for key := range held {
		l, ok := impl.LeaseOf(list, key)
		if !ok {
			t.Fatalf("LeaseOf(%v, %d) fails", list, key)
		}
		held[key] = lease(0, l.Owner, l.Until)
	}
	return held
}
