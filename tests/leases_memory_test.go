package tests

import (
	"testing"

	"loop.example/ringoverlay/impl"
)

// leaseCall is a call of a function of chapter 12 that returns leases, with all arguments but the leases.
type leaseCall struct {
	name string
	do   func(list []impl.Lease) []impl.Lease
}

// leaseCalls returns calls that succeed, that fail, and that change nothing.
func leaseCalls() []leaseCall {
	calls := []leaseCall{{"LeasesMerge", impl.LeasesMerge}}
	for _, key := range []int{0, 3, 20, 21, 63, -1} {
		for _, node := range []int{7, 40, impl.Circle} {
			calls = append(calls, leaseCall{"LeaseHand", func(list []impl.Lease) []impl.Lease {
				got, _ := impl.LeaseHand(list, node, key, 12, 30)
				return got
			}})
			for _, now := range []int{10, 11, impl.MaxTime + 1} {
				calls = append(calls, leaseCall{"LeaseTake", func(list []impl.Lease) []impl.Lease {
					got, _ := impl.LeaseTake(list, key, node, now, 30)
					return got
				}}, leaseCall{"LeaseRenew", func(list []impl.Lease) []impl.Lease {
					got, _ := impl.LeaseRenew(list, node, now, 30)
					return got
				}})
			}
		}
	}
	return calls
}

// leaseMemoryLists has lists of which operations succeed or fail, and lists that are invalid.
func leaseMemoryLists() [][]impl.Lease {
	return [][]impl.Lease{{lease(20, 7, 10)}, {lease(20, 7, 10), lease(50, 40, 11)}, {lease(3, 7, 10), lease(20, 7, 10), lease(63, 7, 10)}, leases(mostEnds(), []int{7, 7, 40}, []int{10}), leases(mostEnds(), []int{7}, []int{11}),
		{}, {lease(50, 7, 10), lease(20, 40, 11)}, leases([]int{0, 1, 2, 3, 4, 5, 6, 7, 8, 9, 10, 11, 12}, []int{7}, []int{10})}
}

// spareLease is in none of the lists.
var spareLease = lease(-99, -99, -99)

func TestLeasesMemory(t *testing.T) {
	for _, list := range leaseMemoryLists() {
		for _, call := range leaseCalls() {
			checkMemory(t, call.name, list, spareLease, call.do)
		}
	}
}

// The empty lists of invalid arguments are results too.
func TestLeasesEmptyMemory(t *testing.T) {
	for _, list := range [][]impl.Lease{nil, {}, {lease(50, 7, 10), lease(20, 40, 11)}} {
		for _, call := range leaseCalls() {
			checkEmptyMemory(t, call.name, list, lease(1, 1, 1), lease(2, 2, 2), call.do)
		}
	}
}

func TestLeasesUnmodified(t *testing.T) {
	for _, list := range leaseMemoryLists() {
		for _, call := range leaseCalls() {
			checkUnmodified(t, call.name, list, spareLease, func(list []impl.Lease) { call.do(list) })
		}
		checkUnmodified(t, "LeasesValid", list, spareLease, func(list []impl.Lease) { impl.LeasesValid(list) })
		for _, p := range []int{0, 7, 20, 40, 63, -1} {
			checkUnmodified(t, "LeaseOf", list, spareLease, func(list []impl.Lease) { impl.LeaseOf(list, p) })
			checkUnmodified(t, "LeaseKeys", list, spareLease, func(list []impl.Lease) { impl.LeaseKeys(list, p) })
		}
	}
}
