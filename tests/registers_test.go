package tests

import (
	"math"
	"slices"
	"testing"

	"loop.example/ringoverlay/impl"
)

// notValues are numbers that are neither values nor versions, the nearest and the farthest ones among them.
var notValues = []int{-1, impl.MaxValue + 1, impl.MaxValue + 2, -impl.MaxValue, math.MinInt, math.MinInt + 1, math.MaxInt - 1, math.MaxInt}

// copies returns a register of equal replicas.
func copies(x impl.Replica, many int) []impl.Replica {
	return slices.Repeat([]impl.Replica{x}, many)
}

// goodRegisters are registers of all sizes that are used with other arguments that are invalid.
func goodRegisters() [][]impl.Replica {
	a, b, c := replica(1, 4, 90), replica(1, 60, 80), replica(2, 0, 70)
	return [][]impl.Replica{{zeroReplica}, {a}, {a, b}, {zeroReplica, zeroReplica}, {a, zeroReplica, b}, {c, a, b, c}, {zeroReplica, a, a, b, c}, copies(zeroReplica, impl.MaxReplicas), copies(replica(impl.MaxVersion, impl.Circle-1, impl.MaxValue), impl.MaxReplicas)}
}

// badReplicas returns replicas that are not valid: each of their numbers is beyond an end of its range, or the version 0 has a writer or a value.
func badReplicas() []impl.Replica {
	list := []impl.Replica{replica(0, 0, 1), replica(0, 1, 0), replica(0, 4, 7), replica(0, impl.Circle-1, impl.MaxValue), replica(0, -1, 0), replica(0, 0, -1), replica(math.MinInt, math.MinInt, math.MinInt), replica(math.MaxInt, math.MaxInt, math.MaxInt)}
	for _, n := range notValues {
		list = append(list, replica(n, 0, 0), replica(n, 4, 7), replica(1, 4, n), replica(impl.MaxVersion, 0, n))
	}
	for _, p := range notPositions {
		list = append(list, replica(1, p, 7), replica(impl.MaxVersion, p, 0))
	}
	return list
}

// eachBadRegister calls check with registers that are invalid: of no and of too many replicas, with one that is not valid, and with two that contradict each other.
func eachBadRegister(check func(list []impl.Replica)) {
	check(nil)
	check([]impl.Replica{})
	for _, many := range []int{impl.MaxReplicas + 1, impl.MaxReplicas + 2, 100} {
		check(copies(zeroReplica, many))
		check(copies(replica(1, 4, 7), many))
	}
	for _, good := range goodRegisters() {
		for i := range good {
			for _, bad := range badReplicas() {
				list := slices.Clone(good)
				list[i] = bad
				check(list)
			}
			for j := range i {
				list := slices.Clone(good)
				list[i], list[j] = replica(3, 4, 7), replica(3, 4, 8)
				check(list)
				list = slices.Clone(good)
				list[i], list[j] = replica(impl.MaxVersion, 0, impl.MaxValue), replica(impl.MaxVersion, 0, 0)
				check(list)
			}
		}
	}
}

// notIndexSets returns lists that are not sets of a register with a number of replicas. Most of them are long enough for a majority.
func notIndexSets(many int) [][]int {
	all := everyIndex(many)
	lists := [][]int{{many}, {many + 1}, {-1}, {math.MaxInt}, {math.MinInt}, {0, 0}, {many - 1, many - 1}, {0, many}, {-1, 0}, append(everyIndex(many), many), append([]int{-1}, all...), append(everyIndex(many), math.MaxInt), append([]int{math.MinInt}, all...),
		append([]int{0}, all...), append(everyIndex(many), many-1), append(everyIndex(many), 0), make([]int, many+1), make([]int, 100), append(everyIndex(many)[1:], many), append([]int{-1}, all[:many-1]...)}
	if many > 1 {
		down := slices.Clone(all)
		slices.Reverse(down)
		lists = append(lists, down, append([]int{1, 0}, all[2:]...), append(everyIndex(many)[:many-2], many-1, many-2), append(everyIndex(many)[:many-1], many-2), slices.Concat(all[1:], all[:1]))
	}
	return lists
}

// notMajorities returns lists that are not sets, and sets of at most half of all replicas.
func notMajorities(many int) [][]int {
	lists := append(notIndexSets(many), nil)
	for _, set := range indexSets(many) {
		if 2*len(set) <= many {
			lists = append(lists, set)
		}
	}
	return lists
}

func TestRegisterValidCases(t *testing.T) {
	for _, list := range slices.Concat(registers(), goodRegisters()) {
		if !impl.RegisterValid(list) {
			t.Errorf("RegisterValid(%v) does not hold", list)
		}
	}
	for _, x := range []impl.Replica{replica(1, 0, 0), replica(impl.MaxVersion, 0, 0), replica(1, impl.Circle-1, 0), replica(1, 0, impl.MaxValue), replica(impl.MaxVersion, impl.Circle-1, impl.MaxValue)} {
		for many := 1; many <= impl.MaxReplicas; many++ {
			if !impl.RegisterValid(copies(x, many)) {
				t.Errorf("RegisterValid of %d times %v does not hold", many, x)
			}
		}
	}
	eachBadRegister(func(list []impl.Replica) {
		if impl.RegisterValid(list) {
			t.Errorf("RegisterValid(%v) holds", list)
		}
	})
}

func TestRegisterLatestCases(t *testing.T) {
	z, a, b, c := zeroReplica, replica(1, 4, 90), replica(1, 60, 80), replica(2, 1, 70)
	for _, x := range []struct {
		name string
		list []impl.Replica
		some []int
		want impl.Replica
	}{
		{"one, zero", []impl.Replica{z}, []int{0}, z},
		{"one", []impl.Replica{a}, []int{0}, a},
		{"two, the first one", []impl.Replica{a, z}, []int{0, 1}, a},
		{"two, the second one", []impl.Replica{z, a}, []int{0, 1}, a},
		{"equal versions, the greater writer last", []impl.Replica{a, b}, []int{0, 1}, b},
		{"equal versions, the greater writer first", []impl.Replica{b, a}, []int{0, 1}, b},
		{"equal versions, writers 0 and 63", []impl.Replica{replica(7, 63, 0), replica(7, 0, 99)}, []int{0, 1}, replica(7, 63, 0)},
		{"equal versions, neighbouring writers", []impl.Replica{replica(7, 5, 0), replica(7, 6, 0)}, []int{0, 1}, replica(7, 6, 0)},
		{"equal versions and writers", []impl.Replica{a, a}, []int{0, 1}, a},
		{"greater version, smaller writer", []impl.Replica{b, c}, []int{0, 1}, c},
		{"version 9 and 10", []impl.Replica{replica(10, 0, 1), replica(9, 63, 2)}, []int{0, 1}, replica(10, 0, 1)},
		{"smallest version and none", []impl.Replica{z, replica(1, 0, 0)}, []int{0, 1}, replica(1, 0, 0)},
		{"three, all", []impl.Replica{a, c, b}, []int{0, 1, 2}, c},
		{"three, without the latest", []impl.Replica{a, c, b}, []int{0, 2}, b},
		{"three, first two", []impl.Replica{a, b, c}, []int{0, 1}, b},
		{"three, last two", []impl.Replica{c, a, z}, []int{1, 2}, a},
		{"four, three of them", []impl.Replica{c, a, b, z}, []int{1, 2, 3}, b},
		{"five, three of them", []impl.Replica{c, z, a, z, b}, []int{1, 2, 3}, a},
		{"five, four of them", []impl.Replica{c, z, a, z, b}, []int{1, 2, 3, 4}, b},
		{"five, all", []impl.Replica{a, z, a, z, c}, []int{0, 1, 2, 3, 4}, c},
		{"five, zeros", []impl.Replica{c, z, c, z, z}, []int{1, 3, 4}, z},
		{"ends", []impl.Replica{replica(99, 62, 99), replica(99, 63, 0), replica(98, 63, 99)}, []int{0, 1, 2}, replica(99, 63, 0)},
	} {
		if got, ok := impl.RegisterLatest(x.list, x.some); !ok || got != x.want {
			t.Errorf("%s: RegisterLatest(%v, %v) = %v, %v, want %v", x.name, x.list, x.some, got, ok, x.want)
		}
	}
}

func TestRegisterReadCases(t *testing.T) {
	z, a, b, c := zeroReplica, replica(1, 4, 90), replica(1, 60, 80), replica(2, 1, 70)
	for _, x := range []struct {
		name       string
		list       []impl.Replica
		some, back []int
		want       []impl.Replica
		value      int
	}{
		{"one", []impl.Replica{a}, []int{0}, []int{0}, []impl.Replica{a}, 90},
		{"zeros", []impl.Replica{z, z, z}, []int{0, 1}, []int{1, 2}, []impl.Replica{z, z, z}, 0},
		{"two", []impl.Replica{z, a}, []int{0, 1}, []int{0, 1}, []impl.Replica{a, a}, 90},
		{"two, equal versions", []impl.Replica{b, a}, []int{0, 1}, []int{0, 1}, []impl.Replica{b, b}, 80},
		{"three, one shared", []impl.Replica{z, a, z}, []int{0, 1}, []int{1, 2}, []impl.Replica{z, a, a}, 90},
		{"three, one shared, not the latest", []impl.Replica{a, z, z}, []int{0, 1}, []int{1, 2}, []impl.Replica{a, a, a}, 90},
		{"three, the same", []impl.Replica{a, z, z}, []int{0, 1}, []int{0, 1}, []impl.Replica{a, a, z}, 90},
		{"later ones stay", []impl.Replica{a, z, c}, []int{0, 1}, []int{1, 2}, []impl.Replica{a, a, c}, 90},
		{"a later writer stays", []impl.Replica{a, z, b}, []int{0, 1}, []int{1, 2}, []impl.Replica{a, a, b}, 90},
		{"an earlier writer is replaced", []impl.Replica{b, z, a}, []int{0, 1}, []int{1, 2}, []impl.Replica{b, b, b}, 80},
		{"zeros are not written", []impl.Replica{z, z, c}, []int{0, 1}, []int{0, 2}, []impl.Replica{z, z, c}, 0},
		{"four", []impl.Replica{a, b, z, z}, []int{0, 1, 2}, []int{0, 2, 3}, []impl.Replica{b, b, b, b}, 80},
		{"four, all", []impl.Replica{a, b, z, c}, []int{0, 1, 2, 3}, []int{0, 1, 2}, []impl.Replica{c, c, c, c}, 70},
		{"five, one shared", []impl.Replica{a, b, z, z, c}, []int{0, 1, 2}, []int{2, 3, 4}, []impl.Replica{a, b, b, b, c}, 80},
		{"five, one to all", []impl.Replica{z, z, c, a, b}, []int{0, 1, 2}, []int{0, 1, 2, 3, 4}, []impl.Replica{c, c, c, c, c}, 70},
	} {
		got, value, ok := impl.RegisterRead(x.list, x.some, x.back)
		if !ok || value != x.value || !slices.Equal(got, x.want) {
			t.Errorf("%s: RegisterRead(%v, %v, %v) = %v, %d, %v, want %v, %d", x.name, x.list, x.some, x.back, got, value, ok, x.want, x.value)
		}
	}
}

func TestRegisterWriteCases(t *testing.T) {
	z, a, b, c := zeroReplica, replica(1, 4, 90), replica(1, 60, 80), replica(2, 1, 70)
	last := replica(impl.MaxVersion-1, 63, 9)
	for _, x := range []struct {
		name          string
		list          []impl.Replica
		some, to      []int
		writer, value int
		want          []impl.Replica
	}{
		{"one", []impl.Replica{z}, []int{0}, []int{0}, 4, 7, []impl.Replica{replica(1, 4, 7)}},
		{"the same writer and value", []impl.Replica{a}, []int{0}, []int{0}, 4, 90, []impl.Replica{replica(2, 4, 90)}},
		{"a smaller writer", []impl.Replica{b}, []int{0}, []int{0}, 0, 0, []impl.Replica{replica(2, 0, 0)}},
		{"two", []impl.Replica{a, b}, []int{0, 1}, []int{0, 1}, 4, 7, []impl.Replica{replica(2, 4, 7), replica(2, 4, 7)}},
		{"three, one shared", []impl.Replica{z, z, z}, []int{0, 1}, []int{1, 2}, 4, 7, []impl.Replica{z, replica(1, 4, 7), replica(1, 4, 7)}},
		{"three, one shared, not the latest", []impl.Replica{c, z, z}, []int{0, 1}, []int{1, 2}, 4, 7, []impl.Replica{c, replica(3, 4, 7), replica(3, 4, 7)}},
		{"later ones stay", []impl.Replica{a, z, replica(9, 1, 5)}, []int{0, 1}, []int{1, 2}, 4, 7, []impl.Replica{a, replica(2, 4, 7), replica(9, 1, 5)}},
		{"the same version, a later writer stays", []impl.Replica{a, z, replica(2, 5, 5)}, []int{0, 1}, []int{1, 2}, 4, 7, []impl.Replica{a, replica(2, 4, 7), replica(2, 5, 5)}},
		{"the same version, an earlier writer is replaced", []impl.Replica{a, z, replica(2, 3, 5)}, []int{0, 1}, []int{1, 2}, 4, 7, []impl.Replica{a, replica(2, 4, 7), replica(2, 4, 7)}},
		{"the same replica is there", []impl.Replica{a, z, replica(2, 4, 7)}, []int{0, 1}, []int{1, 2}, 4, 7, []impl.Replica{a, replica(2, 4, 7), replica(2, 4, 7)}},
		{"the same replica is elsewhere", []impl.Replica{replica(2, 4, 7), a, z}, []int{1, 2}, []int{1, 2}, 4, 7, copies(replica(2, 4, 7), 3)},
		{"four", []impl.Replica{a, b, z, c}, []int{0, 1, 2}, []int{1, 2, 3}, 63, 99, []impl.Replica{a, replica(2, 63, 99), replica(2, 63, 99), replica(2, 63, 99)}},
		{"five, one shared", []impl.Replica{a, b, z, z, c}, []int{0, 1, 2}, []int{2, 3, 4}, 0, 99, []impl.Replica{a, b, replica(2, 0, 99), replica(2, 0, 99), c}},
		{"five, all", []impl.Replica{a, b, z, z, c}, []int{0, 1, 2, 3, 4}, []int{0, 1, 2, 3, 4}, 63, 0, copies(replica(3, 63, 0), 5)},
		{"the last version", []impl.Replica{last, z, z}, []int{0, 1}, []int{1, 2}, 0, 7, []impl.Replica{last, replica(99, 0, 7), replica(99, 0, 7)}},
		{"the last version is elsewhere", []impl.Replica{a, z, replica(99, 0, 7)}, []int{0, 1}, []int{1, 2}, 4, 7, []impl.Replica{a, replica(2, 4, 7), replica(99, 0, 7)}},
	} {
		got, ok := impl.RegisterWrite(x.list, x.some, x.to, x.writer, x.value)
		if !ok || !slices.Equal(got, x.want) {
			t.Errorf("%s: RegisterWrite(%v, %v, %v, %d, %d) = %v, %v, want %v", x.name, x.list, x.some, x.to, x.writer, x.value, got, ok, x.want)
		}
	}
}

func TestRegisterWriteRefused(t *testing.T) {
	z, a, full := zeroReplica, replica(1, 4, 90), replica(impl.MaxVersion, 0, 7)
	for _, x := range []struct {
		name     string
		list     []impl.Replica
		some, to []int
	}{
		{"the last version", []impl.Replica{full}, []int{0}, []int{0}},
		{"the last version, shared", []impl.Replica{z, full, z}, []int{0, 1}, []int{1, 2}},
		{"the last version, not shared", []impl.Replica{full, z, z}, []int{0, 1}, []int{1, 2}},
		{"another value, in the second set", []impl.Replica{a, z, replica(2, 4, 8)}, []int{0, 1}, []int{1, 2}},
		{"another value, in no set", []impl.Replica{replica(2, 4, 8), a, z}, []int{1, 2}, []int{1, 2}},
		{"another value, in the second set before a later one", []impl.Replica{z, z, z, replica(1, 4, 6), replica(5, 4, 6)}, []int{0, 1, 2}, []int{2, 3, 4}},
	} {
		t.Run(x.name, func(t *testing.T) { checkNoWrite(t, x.list, x.some, x.to, 4, 7) })
	}
	for _, list := range goodRegisters() {
		all := everyIndex(len(list))
		for _, p := range notPositions {
			checkNoWrite(t, list, all, all, p, 7)
		}
		for _, n := range notValues {
			checkNoWrite(t, list, all, all, 4, n)
		}
		checkNoWrite(t, list, all, all, -1, -1)
	}
}

func TestRegisterPartCases(t *testing.T) {
	z, a, b, c := zeroReplica, replica(1, 4, 90), replica(1, 60, 80), replica(2, 1, 70)
	for _, x := range []struct {
		name string
		list []impl.Replica
		to   []int
		x    impl.Replica
		want []impl.Replica
	}{
		{"one", []impl.Replica{z}, []int{0}, a, []impl.Replica{a}},
		{"zero", []impl.Replica{a, z, c}, []int{0, 1, 2}, z, []impl.Replica{a, z, c}},
		{"older", []impl.Replica{c, c}, []int{0}, b, []impl.Replica{c, c}},
		{"equal", []impl.Replica{c, c}, []int{0, 1}, c, []impl.Replica{c, c}},
		{"later", []impl.Replica{b, b}, []int{1}, c, []impl.Replica{b, c}},
		{"a later writer", []impl.Replica{a, a}, []int{1}, b, []impl.Replica{a, b}},
		{"an earlier writer", []impl.Replica{b, b}, []int{1}, a, []impl.Replica{b, b}},
		{"no majority", []impl.Replica{z, z, z}, []int{1}, a, []impl.Replica{z, a, z}},
		{"the last one", []impl.Replica{z, z, z}, []int{2}, a, []impl.Replica{z, z, a}},
		{"half", []impl.Replica{z, z, z, z}, []int{0, 3}, a, []impl.Replica{a, z, z, a}},
		{"majority", []impl.Replica{z, z, c, z, z}, []int{0, 2, 4}, a, []impl.Replica{a, z, c, z, a}},
		{"all", []impl.Replica{z, a, b, c, z}, []int{0, 1, 2, 3, 4}, b, []impl.Replica{b, b, b, c, b}},
		{"none", []impl.Replica{z, a, b}, []int{}, c, []impl.Replica{z, a, b}},
		{"nil", []impl.Replica{z, a, b}, nil, c, []impl.Replica{z, a, b}},
		{"another value, to none", []impl.Replica{z, a, b}, []int{}, replica(1, 4, 91), []impl.Replica{z, a, b}},
		{"another value, to itself", []impl.Replica{z, a, b}, []int{1}, replica(1, 4, 91), []impl.Replica{z, a, b}},
		{"another value, to a later one", []impl.Replica{z, a, b}, []int{2}, replica(1, 4, 91), []impl.Replica{z, a, b}},
		{"the last replica", []impl.Replica{c}, []int{0}, replica(99, 63, 99), []impl.Replica{replica(99, 63, 99)}},
		{"the first replica", []impl.Replica{z}, []int{0}, replica(1, 0, 0), []impl.Replica{replica(1, 0, 0)}},
	} {
		if got, ok := impl.RegisterPart(x.list, x.to, x.x); !ok || !slices.Equal(got, x.want) {
			t.Errorf("%s: RegisterPart(%v, %v, %v) = %v, %v, want %v", x.name, x.list, x.to, x.x, got, ok, x.want)
		}
	}
}

func TestRegisterPartRefused(t *testing.T) {
	z, a, other := zeroReplica, replica(1, 4, 90), replica(1, 4, 91)
	checkNoPart(t, []impl.Replica{z, a}, []int{0}, other)
	checkNoPart(t, []impl.Replica{z, a}, []int{0, 1}, other)
	checkNoPart(t, []impl.Replica{a, z, replica(5, 0, 0)}, []int{1, 2}, other)
	checkNoPart(t, []impl.Replica{a, a, a, a, replica(1, 3, 2)}, []int{4}, other)
	for _, list := range goodRegisters() {
		for _, set := range indexSets(len(list)) {
			for _, x := range badReplicas() {
				checkNoPart(t, list, set, x)
			}
		}
	}
}

func TestRegisterMoveCases(t *testing.T) {
	z, a, b, c := zeroReplica, replica(1, 4, 90), replica(1, 60, 80), replica(2, 1, 70)
	for _, x := range []struct {
		name string
		list []impl.Replica
		some []int
		many int
		to   []int
		want []impl.Replica
	}{
		{"one", []impl.Replica{a}, []int{0}, 1, []int{0}, []impl.Replica{a}},
		{"one to two", []impl.Replica{a}, []int{0}, 2, []int{0, 1}, []impl.Replica{a, a}},
		{"one to five", []impl.Replica{a}, []int{0}, 5, []int{0, 2, 4}, []impl.Replica{a, z, a, z, a}},
		{"two to three", []impl.Replica{a, b}, []int{0, 1}, 3, []int{1, 2}, []impl.Replica{z, b, b}},
		{"three to three", []impl.Replica{c, a, b}, []int{1, 2}, 3, []int{0, 1}, []impl.Replica{b, b, z}},
		{"three to one", []impl.Replica{c, z, b}, []int{0, 1}, 1, []int{0}, []impl.Replica{c}},
		{"three to four", []impl.Replica{c, z, b}, []int{0, 1, 2}, 4, []int{0, 1, 3}, []impl.Replica{c, c, z, c}},
		{"four to two", []impl.Replica{a, b, z, c}, []int{0, 1, 2}, 2, []int{0, 1}, []impl.Replica{b, b}},
		{"five to five", []impl.Replica{a, b, z, c, a}, []int{0, 2, 4}, 5, []int{0, 1, 2, 3, 4}, copies(a, 5)},
		{"five to four", []impl.Replica{a, b, z, c, a}, []int{0, 1, 2, 3, 4}, 4, []int{1, 2, 3}, []impl.Replica{z, c, c, c}},
		{"zeros", []impl.Replica{c, z, z}, []int{1, 2}, 2, []int{0, 1}, []impl.Replica{z, z}},
		{"an index beyond the old register", []impl.Replica{c}, []int{0}, 3, []int{1, 2}, []impl.Replica{z, c, c}},
	} {
		got, ok := impl.RegisterMove(x.list, x.some, x.many, x.to)
		if !ok || !slices.Equal(got, x.want) {
			t.Errorf("%s: RegisterMove(%v, %v, %d, %v) = %v, %v, want %v", x.name, x.list, x.some, x.many, x.to, got, ok, x.want)
		}
	}
}

// The answers are compared with those of a model that goes through all replicas, and are registers again.
func TestRegistersModelled(t *testing.T) {
	eachAsked(func(list []impl.Replica, some []int) {
		if got, ok := impl.RegisterLatest(list, some); !ok || got != modelLatest(list, some) {
			t.Fatalf("RegisterLatest(%v, %v) = %v, %v", list, some, got, ok)
		}
	})
	eachPair(1, func(list []impl.Replica, some, back []int) {
		x := modelLatest(list, some)
		want := modelWritten(list, back, x)
		if got, value, ok := impl.RegisterRead(list, some, back); !ok || value != x.Value || !slices.Equal(got, want) || !impl.RegisterValid(got) {
			t.Fatalf("RegisterRead(%v, %v, %v) = %v, %d, %v, want %v, %d", list, some, back, got, value, ok, want, x.Value)
		}
	})
	eachWrite(7, func(list []impl.Replica, some, to []int, writer, value int) {
		want, succeeds := modelWrite(list, some, to, writer, value)
		if !succeeds {
			checkNoWrite(t, list, some, to, writer, value)
		} else if got, ok := impl.RegisterWrite(list, some, to, writer, value); !ok || !slices.Equal(got, want) || !impl.RegisterValid(got) {
			t.Fatalf("RegisterWrite(%v, %v, %v, %d, %d) = %v, %v, want %v", list, some, to, writer, value, got, ok, want)
		}
	})
	eachPart(func(list []impl.Replica, to []int, x impl.Replica) {
		want, succeeds := modelPart(list, to, x)
		if !succeeds {
			checkNoPart(t, list, to, x)
		} else if got, ok := impl.RegisterPart(list, to, x); !ok || !slices.Equal(got, want) || !impl.RegisterValid(got) {
			t.Fatalf("RegisterPart(%v, %v, %v) = %v, %v, want %v", list, to, x, got, ok, want)
		}
	})
	eachMove(19, func(list []impl.Replica, some []int, many int, to []int) {
		want := modelWritten(copies(zeroReplica, many), to, modelLatest(list, some))
		if got, ok := impl.RegisterMove(list, some, many, to); !ok || !slices.Equal(got, want) || !impl.RegisterValid(got) {
			t.Fatalf("RegisterMove(%v, %v, %d, %v) = %v, %v, want %v", list, some, many, to, got, ok, want)
		}
	})
}

// RegisterValid is compared with a model that keeps a map of versions and writers.
func TestRegisterValidModelled(t *testing.T) {
	kinds := append(rawReplicas(), replica(impl.MaxVersion+1, 0, 0), replica(1, impl.Circle, 0), replica(1, 0, -1))
	for many := range 5 {
		eachList(kinds, many, func(list []impl.Replica) {
			if got, want := impl.RegisterValid(list), modelRegisterValid(list); got != want {
				t.Fatalf("RegisterValid(%v) = %v, want %v", list, got, want)
			}
		})
	}
}

// checkNoLatest requires that RegisterLatest returns zero values.
func checkNoLatest(t *testing.T, list []impl.Replica, some []int) {
	t.Helper()
	if got, ok := impl.RegisterLatest(list, some); ok || got != zeroReplica {
		t.Errorf("RegisterLatest(%v, %v) = %v, %v, want none", list, some, got, ok)
	}
}

func checkNoRead(t *testing.T, list []impl.Replica, some, back []int) {
	t.Helper()
	if got, value, ok := impl.RegisterRead(list, some, back); ok || value != 0 || len(got) != 0 {
		t.Errorf("RegisterRead(%v, %v, %v) = %v, %d, %v, want none", list, some, back, got, value, ok)
	}
}

func checkNoWrite(t *testing.T, list []impl.Replica, some, to []int, writer, value int) {
	t.Helper()
	if got, ok := impl.RegisterWrite(list, some, to, writer, value); ok || len(got) != 0 {
		t.Errorf("RegisterWrite(%v, %v, %v, %d, %d) = %v, %v, want none", list, some, to, writer, value, got, ok)
	}
}

func checkNoPart(t *testing.T, list []impl.Replica, to []int, x impl.Replica) {
	t.Helper()
	if got, ok := impl.RegisterPart(list, to, x); ok || len(got) != 0 {
		t.Errorf("RegisterPart(%v, %v, %v) = %v, %v, want none", list, to, x, got, ok)
	}
}

func checkNoMove(t *testing.T, list []impl.Replica, some []int, many int, to []int) {
	t.Helper()
	if got, ok := impl.RegisterMove(list, some, many, to); ok || len(got) != 0 {
		t.Errorf("RegisterMove(%v, %v, %d, %v) = %v, %v, want none", list, some, many, to, got, ok)
	}
}

func TestRegistersInvalid(t *testing.T) {
	eachBadRegister(func(list []impl.Replica) {
		all := everyIndex(len(list))
		for _, some := range [][]int{all, all[len(all)/2:], all[:len(all)/2], {0}, {0, 1}, {}, nil} {
			checkNoLatest(t, list, some)
			checkNoRead(t, list, some, all)
			checkNoRead(t, list, all, some)
			checkNoWrite(t, list, some, all, 4, 7)
			checkNoWrite(t, list, all, some, 4, 7)
			for _, x := range []impl.Replica{zeroReplica, replica(1, 4, 7), replica(impl.MaxVersion, impl.Circle-1, 0)} {
				checkNoPart(t, list, some, x)
			}
			for many := 1; many <= impl.MaxReplicas; many++ {
				checkNoMove(t, list, some, many, everyIndex(many))
			}
		}
	})
}

func TestRegisterBadSets(t *testing.T) {
	for _, list := range goodRegisters() {
		all := everyIndex(len(list))
		for _, bad := range notMajorities(len(list)) {
			checkNoLatest(t, list, bad)
			checkNoRead(t, list, bad, all)
			checkNoRead(t, list, all, bad)
			checkNoRead(t, list, bad, bad)
			checkNoWrite(t, list, bad, all, 4, 7)
			checkNoWrite(t, list, all, bad, 4, 7)
			checkNoWrite(t, list, bad, bad, 4, 7)
			for many := 1; many <= impl.MaxReplicas; many++ {
				checkNoMove(t, list, bad, many, everyIndex(many))
			}
		}
		for _, bad := range notIndexSets(len(list)) {
			for _, x := range []impl.Replica{zeroReplica, replica(1, 4, 90), replica(50, 4, 7)} {
				checkNoPart(t, list, bad, x)
			}
		}
	}
}

// The second set of RegisterMove belongs to the new register, not to the old one.
func TestRegisterBadMoves(t *testing.T) {
	for _, list := range goodRegisters() {
		all := everyIndex(len(list))
		for many := 1; many <= impl.MaxReplicas; many++ {
			for _, bad := range notMajorities(many) {
				checkNoMove(t, list, all, many, bad)
			}
		}
		for _, many := range []int{0, -1, -2, -impl.MaxReplicas, impl.MaxReplicas + 1, impl.MaxReplicas + 2, 100, math.MinInt, math.MinInt + 1, math.MaxInt - 1, math.MaxInt} {
			for _, to := range [][]int{nil, {}, {0}, {0, 1}, {0, 1, 2, 3}, all, everyIndex(6), everyIndex(7), everyIndex(100), {-1}, {math.MaxInt}} {
				checkNoMove(t, list, all, many, to)
			}
		}
	}
}
