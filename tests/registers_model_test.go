package tests

import (
	"slices"
	"sync"
	"testing"

	"loop.example/ringoverlay/impl"
)

func replica(version, writer, value int) impl.Replica {
	return impl.Replica{Version: version, Writer: writer, Value: value}
}

var zeroReplica = replica(0, 0, 0)

// latePool returns replicas of which a later one has a smaller value, and a greater version a smaller writer. No two of them have the same value, so that a value tells which replica was read.
func latePool() []impl.Replica {
	return []impl.Replica{zeroReplica, replica(1, 4, 90), replica(1, 60, 80), replica(2, 1, 70)}
}

// lastPool returns replicas at the ends of the ranges.
func lastPool() []impl.Replica {
	return []impl.Replica{zeroReplica, replica(impl.MaxVersion-1, impl.Circle-1, 1), replica(impl.MaxVersion, 0, impl.MaxValue), replica(impl.MaxVersion, 1, 98)}
}

// eachList calls check with all lists of a number of replicas of a pool.
func eachList(pool []impl.Replica, many int, check func(list []impl.Replica)) {
	list := make([]impl.Replica, many)
	var fill func(i int)
	fill = func(i int) {
		if i == many {
			check(slices.Clone(list))
			return
		}
		for _, x := range pool {
			list[i] = x
			fill(i + 1)
		}
	}
	fill(0)
}

// registers returns all registers of 1 to MaxReplicas replicas of the first pool, and those of at most 3 of the second one. They are shared by the tests, which do not change them.
var registers = sync.OnceValue(func() [][]impl.Replica {
	var lists [][]impl.Replica
	for many := 1; many <= impl.MaxReplicas; many++ {
		eachList(latePool(), many, func(list []impl.Replica) { lists = append(lists, list) })
		if many <= 3 {
			eachList(lastPool(), many, func(list []impl.Replica) { lists = append(lists, list) })
		}
	}
	return lists
})

// everyRegister returns all registers with few replicas, and each step-th one of those with more than 3.
func everyRegister(step int) [][]impl.Replica {
	var lists [][]impl.Replica
	for i, list := range registers() {
		if len(list) <= 3 || i%step == 0 {
			lists = append(lists, list)
		}
	}
	return lists
}

// indexSets returns all sets of a register with a number of replicas, the empty one included.
func indexSets(many int) [][]int {
	var sets [][]int
	for bits := range 1 << many {
		set := []int{}
		for i := range many {
			if bits>>i&1 == 1 {
				set = append(set, i)
			}
		}
		sets = append(sets, set)
	}
	return sets
}

// majorities returns the sets with 1 of 1, 2 of 2 or 3, and 3 of 4 or 5 replicas, and the larger ones.
func majorities(many int) [][]int {
	fewest := []int{0, 1, 2, 2, 3, 3}[many]
	return slices.DeleteFunc(indexSets(many), func(set []int) bool { return len(set) < fewest })
}

// everyIndex returns the set of all replicas.
func everyIndex(many int) []int {
	set := []int{}
	for i := range many {
		set = append(set, i)
	}
	return set
}

// isOlder compares versions and, where they are equal, writers.
func isOlder(a, b impl.Replica) bool {
	if a.Version == b.Version {
		return a.Writer < b.Writer
	}
	return a.Version < b.Version
}

// modelReplicaValid compares with the numbers of the document's table.
func modelReplicaValid(x impl.Replica) bool {
	return x == zeroReplica || 1 <= x.Version && x.Version <= 99 && 0 <= x.Writer && x.Writer <= 63 && 0 <= x.Value && x.Value <= 99
}

func modelRegisterValid(list []impl.Replica) bool {
	known := map[[2]int]int{}
	for _, x := range list {
		id := [2]int{x.Version, x.Writer}
		if value, seen := known[id]; seen && value != x.Value || !modelReplicaValid(x) {
			return false
		}
		known[id] = x.Value
	}
	return len(list) >= 1 && len(list) <= 5
}

func modelLatest(list []impl.Replica, some []int) impl.Replica {
	latest := list[some[0]]
	for _, i := range some {
		if isOlder(latest, list[i]) {
			latest = list[i]
		}
	}
	return latest
}

// modelWritten goes through all replicas of the register, and asks for each one whether it is in the set.
func modelWritten(list []impl.Replica, set []int, x impl.Replica) []impl.Replica {
	var result []impl.Replica
	for i, old := range list {
		if slices.Contains(set, i) && isOlder(old, x) {
			result = append(result, x)
		} else {
			result = append(result, old)
		}
	}
	return result
}

// modelPart is RegisterPart of valid arguments but for the replica.
func modelPart(list []impl.Replica, to []int, x impl.Replica) ([]impl.Replica, bool) {
	result := modelWritten(list, to, x)
	if !modelReplicaValid(x) || !modelRegisterValid(result) {
		return nil, false
	}
	return result, true
}

// modelWrite is RegisterWrite of valid arguments but for the writer and the value.
func modelWrite(list []impl.Replica, some, to []int, writer, value int) ([]impl.Replica, bool) {
	version := modelLatest(list, some).Version + 1
	if version > 99 || writer < 0 || writer > 63 || value < 0 || value > 99 {
		return nil, false
	}
	result := modelWritten(list, to, replica(version, writer, value))
	return result, modelRegisterValid(result)
}

// eachAsked calls check for all registers and majorities of them.
func eachAsked(check func(list []impl.Replica, some []int)) {
	for _, list := range registers() {
		for _, some := range majorities(len(list)) {
			check(list, some)
		}
	}
}

// eachPair calls check for registers and all pairs of majorities of them, some of which share a single replica.
func eachPair(step int, check func(list []impl.Replica, some, other []int)) {
	for _, list := range everyRegister(step) {
		sets := majorities(len(list))
		for _, some := range sets {
			for _, other := range sets {
				check(list, some, other)
			}
		}
	}
}

// eachWrite calls check for writers below, at and above those of the pools, and for values that are theirs or not.
func eachWrite(step int, check func(list []impl.Replica, some, to []int, writer, value int)) {
	eachPair(step, func(list []impl.Replica, some, to []int) {
		for _, w := range []struct{ writer, value int }{{0, 5}, {4, 90}, {4, 91}, {30, 0}, {60, 80}, {1, 70}, {1, 71}, {63, impl.MaxValue}} {
			check(list, some, to, w.writer, w.value)
		}
	})
}

// eachPart calls check for all registers, all sets of them, and replicas that are older than, equal to and later than others, or contradict them.
func eachPart(check func(list []impl.Replica, to []int, x impl.Replica)) {
	parts := append(latePool(), replica(1, 0, 5), replica(1, 4, 91), replica(1, 30, 90), replica(2, 0, 70), replica(2, 1, 69), replica(2, 63, 0), replica(impl.MaxVersion, 0, 3), replica(impl.MaxVersion, impl.Circle-1, impl.MaxValue))
	for _, list := range registers() {
		for _, to := range indexSets(len(list)) {
			for _, x := range parts {
				check(list, to, x)
			}
		}
	}
}

// eachMove calls check for all numbers of new replicas and all majorities of them.
func eachMove(step int, check func(list []impl.Replica, some []int, many int, to []int)) {
	for _, list := range everyRegister(step) {
		for _, some := range majorities(len(list)) {
			for many := 1; many <= impl.MaxReplicas; many++ {
				for _, to := range majorities(many) {
					check(list, some, many, to)
				}
			}
		}
	}
}

// latestOf is RegisterLatest of valid arguments.
func latestOf(t *testing.T, list []impl.Replica, some []int) impl.Replica {
	t.Helper()
	x, ok := impl.RegisterLatest(list, some)
	if !ok {
		t.Fatalf("RegisterLatest(%v, %v) fails", list, some)
	}
	return x
}

// readOf is RegisterRead of valid arguments.
func readOf(t *testing.T, list []impl.Replica, some, back []int) ([]impl.Replica, int) {
	t.Helper()
	got, value, ok := impl.RegisterRead(list, some, back)
	if !ok || len(got) != len(list) {
		t.Fatalf("RegisterRead(%v, %v, %v) = %v, %d, %v", list, some, back, got, value, ok)
	}
	return got, value
}
