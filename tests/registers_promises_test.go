package tests

import (
	"slices"
	"testing"

	"loop.example/ringoverlay/impl"
)

func TestPromise80(t *testing.T) {
	eachAsked(func(list []impl.Replica, some []int) {
		x := latestOf(t, list, some)
		among := false
		for _, i := range some {
			among = among || list[i] == x
			if isOlder(x, list[i]) {
				t.Fatalf("RegisterLatest(%v, %v) = %v is older than %v", list, some, x, list[i])
			}
		}
		if !among {
			t.Fatalf("RegisterLatest(%v, %v) = %v is none of them", list, some, x)
		}
	})
}

func TestPromise81(t *testing.T) {
	eachAsked(func(list []impl.Replica, some []int) {
		all, x := latestOf(t, list, everyIndex(len(list))), latestOf(t, list, some)
		if isOlder(all, x) {
			t.Fatalf("RegisterLatest of all of %v is %v, and that of %v is %v", list, all, some, x)
		}
	})
}

func TestPromise82(t *testing.T) {
	count := 0
	for _, list := range registers() {
		for _, some := range indexSets(len(list)) {
			if 2*len(some) > len(list) {
				continue
			}
			if x, ok := impl.RegisterLatest(list, some); ok || x != zeroReplica {
				t.Fatalf("RegisterLatest(%v, %v) = %v, %v", list, some, x, ok)
			}
			count++
		}
	}
	succeeded(t, count)
}

// checkSpread requires that every majority has x or a later replica.
func checkSpread(t *testing.T, name string, list []impl.Replica, x impl.Replica) {
	t.Helper()
	for _, some := range majorities(len(list)) {
		if y := latestOf(t, list, some); y != x && !isOlder(x, y) {
			t.Fatalf("%s: RegisterLatest(%v, %v) = %v is neither %v nor later", name, list, some, y, x)
		}
	}
}

// eachWritten calls check for the calls of eachWrite that succeed, with the replica that is written.
func eachWritten(t *testing.T, step int, check func(list, got []impl.Replica, to []int, x impl.Replica)) {
	t.Helper()
	count := 0
	eachWrite(step, func(list []impl.Replica, some, to []int, writer, value int) {
		if got, ok := impl.RegisterWrite(list, some, to, writer, value); ok {
			check(list, got, to, replica(latestOf(t, list, some).Version+1, writer, value))
			count++
		}
	})
	succeeded(t, count)
}

func TestPromise83(t *testing.T) {
	eachWritten(t, 29, func(list, got []impl.Replica, to []int, x impl.Replica) {
		checkSpread(t, "RegisterWrite", got, x)
	})
}

func TestPromise84(t *testing.T) {
	eachWritten(t, 11, func(list, got []impl.Replica, to []int, x impl.Replica) {
		if len(got) != len(list) {
			t.Fatalf("RegisterWrite of %v to %v of %v returns %v", x, to, list, got)
		}
		for i := range list {
			given := slices.Contains(to, i)
			if given && isOlder(got[i], x) || !given && got[i] != list[i] {
				t.Fatalf("RegisterWrite of %v to %v of %v returns %v", x, to, list, got)
			}
		}
	})
}

func TestPromise85(t *testing.T) {
	eachPair(29, func(list []impl.Replica, some, back []int) {
		got, value := readOf(t, list, some, back)
		x := latestOf(t, list, some)
		if value != x.Value {
			t.Fatalf("RegisterRead(%v, %v, %v) reads %d, but the latest is %v", list, some, back, value, x)
		}
		checkSpread(t, "RegisterRead", got, x)
	})
}

func TestPromise86(t *testing.T) {
	eachPair(5, func(list []impl.Replica, some, back []int) {
		got, _ := readOf(t, list, some, back)
		all := everyIndex(len(list))
		if was, is := latestOf(t, list, all), latestOf(t, got, all); was != is {
			t.Fatalf("RegisterRead(%v, %v, %v) = %v makes the latest %v of %v", list, some, back, got, is, was)
		}
	})
}

// withValue returns the replica of a register that has a value; no two in the pools have the same one.
func withValue(t *testing.T, list []impl.Replica, value int) impl.Replica {
	t.Helper()
	i := slices.IndexFunc(list, func(x impl.Replica) bool { return x.Value == value })
	if i < 0 {
		t.Fatalf("no replica of %v has the value %d that was read", list, value)
	}
	return list[i]
}

func TestPromise87(t *testing.T) {
	count := 0
	eachPair(41, func(list []impl.Replica, some, back []int) {
		got, value := readOf(t, list, some, back)
		x := withValue(t, list, value)
		sets := majorities(len(list))
		for k, again := range sets {
			_, second := readOf(t, got, again, sets[(k*7+3)%len(sets)])
			if y := withValue(t, got, second); isOlder(y, x) {
				t.Fatalf("RegisterRead(%v, %v, %v) reads %v, and then from %v %v", list, some, back, x, again, y)
			}
			count++
		}
	})
	succeeded(t, count)
}

// eachParted calls check for the calls of eachPart that succeed.
func eachParted(t *testing.T, check func(list, got []impl.Replica, to []int, x impl.Replica)) {
	t.Helper()
	count := 0
	eachPart(func(list []impl.Replica, to []int, x impl.Replica) {
		if got, ok := impl.RegisterPart(list, to, x); ok {
			check(list, got, to, x)
			count++
		}
	})
	succeeded(t, count)
}

func TestPromise88(t *testing.T) {
	replaced := 0
	eachParted(t, func(list, got []impl.Replica, to []int, x impl.Replica) {
		if len(got) != len(list) {
			t.Fatalf("RegisterPart(%v, %v, %v) = %v", list, to, x, got)
		}
		for i := range list {
			want := list[i]
			if slices.Contains(to, i) && isOlder(list[i], x) {
				want = x
				replaced++
			}
			if got[i] != want {
				t.Fatalf("RegisterPart(%v, %v, %v) = %v", list, to, x, got)
			}
		}
	})
	succeeded(t, replaced)
}

func TestPromise89(t *testing.T) {
	eachParted(t, func(list, got []impl.Replica, to []int, x impl.Replica) {
		if again, ok := impl.RegisterPart(got, to, x); !ok || !slices.Equal(again, got) {
			t.Fatalf("RegisterPart(%v, %v, %v) = %v, and then %v, %v", list, to, x, got, again, ok)
		}
	})
}

func TestPromise90(t *testing.T) {
	x, count := replica(2, 30, 60), 0
	for _, list := range everyRegister(97) {
		for _, to := range indexSets(len(list)) {
			parted, ok := impl.RegisterPart(list, to, x)
			if !ok {
				t.Fatalf("RegisterPart(%v, %v, %v) fails", list, to, x)
			}
			for _, some := range majorities(len(list)) {
				for _, back := range majorities(len(list)) {
					got, value := readOf(t, parted, some, back)
					if value == x.Value {
						checkSpread(t, "RegisterPart and RegisterRead", got, x)
						count++
					}
				}
			}
		}
	}
	succeeded(t, count)
}

func TestPromise91(t *testing.T) {
	eachMove(41, func(list []impl.Replica, some []int, many int, to []int) {
		got, ok := impl.RegisterMove(list, some, many, to)
		if !ok || len(got) != many {
			t.Fatalf("RegisterMove(%v, %v, %d, %v) = %v, %v", list, some, many, to, got, ok)
		}
		x := latestOf(t, list, some)
		for _, other := range majorities(many) {
			if y := latestOf(t, got, other); y != x {
				t.Fatalf("RegisterMove(%v, %v, %d, %v) = %v, where RegisterLatest of %v is %v and not %v", list, some, many, to, got, other, y, x)
			}
		}
	})
}

// rawReplicas has replicas with the same version and writer and other values, and replicas of version 0 that are not zero.
func rawReplicas() []impl.Replica {
	var list []impl.Replica
	for _, version := range []int{0, 1, impl.MaxVersion} {
		for _, writer := range []int{0, 63} {
			for _, value := range []int{0, 7} {
				list = append(list, replica(version, writer, value))
			}
		}
	}
	return list
}

func TestPromise92(t *testing.T) {
	valid := 0
	for many := 1; many <= 4; many++ {
		eachList(rawReplicas(), many, func(list []impl.Replica) {
			if !impl.RegisterValid(list) {
				return
			}
			valid++
			for _, x := range list {
				if x.Version == 0 && x != zeroReplica {
					t.Fatalf("RegisterValid(%v) holds", list)
				}
				for _, y := range list {
					if x.Version == y.Version && x.Writer == y.Writer && x != y {
						t.Fatalf("RegisterValid(%v) holds", list)
					}
				}
			}
		})
	}
	succeeded(t, valid)
}

// In a long history of writes, unfinished writes, reads and moves, no majority ever knows only replicas that are older than one that was written or read. (REGISTER.)
func TestRegisterHistory(t *testing.T) {
	for seed := range 200 {
		random := spread(seed)
		list, floor := make([]impl.Replica, 1+seed%impl.MaxReplicas), zeroReplica
		for range 60 {
			sets := majorities(len(list))
			some, other := sets[random.below(len(sets))], sets[random.below(len(sets))]
			writer, value := random.below(4), random.below(impl.MaxValue+1)
			x := latestOf(t, list, some)
			next := replica(x.Version+1, writer, value)
			got, ok := list, true
			switch random.below(5) {
			case 0:
				if got, ok = impl.RegisterWrite(list, some, other, writer, value); ok {
					x = next
				}
			case 1:
				part := indexSets(len(list))
				got, ok = impl.RegisterPart(list, part[random.below(len(part))], next)
				x = floor // an unfinished write promises nothing
			case 2, 3:
				got, _, ok = impl.RegisterRead(list, some, other)
			case 4:
				many := 1 + random.below(impl.MaxReplicas)
				got, ok = impl.RegisterMove(list, some, many, everyIndex(many)[many-(many/2+1):])
			}
			if !ok {
				continue // the register has another value of this version and writer
			}
			if isOlder(floor, x) {
				floor = x
			}
			list = got
			checkSpread(t, "history", list, floor)
		}
		if floor.Version < 3 {
			t.Errorf("the history of seed %d comes only to version %d", seed, floor.Version)
		}
	}
}
