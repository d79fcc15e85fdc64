package tests

import (
	"slices"
	"testing"

	"loop.example/ringoverlay/impl"
)

// scanStep performs a step that must succeed.
func scanStep(t *testing.T, list []impl.Lease, keys []int, s impl.Scan) impl.Scan {
	t.Helper()
	got, ok := impl.ScanStep(list, keys, s)
	if !ok {
		t.Fatalf("ScanStep(%v, %v, %v) fails", list, keys, s)
	}
	return got
}

// eachStepped calls check for the calls of eachScan, which must succeed.
func eachStepped(t *testing.T, check func(list []impl.Lease, keys []int, s, got impl.Scan)) {
	t.Helper()
	count := 0
	eachScan(func(list []impl.Lease, keys []int, s impl.Scan) {
		check(list, keys, s, scanStep(t, list, keys, s))
		count++
	})
	succeeded(t, count)
}

// keysFrom returns the keys from a position to another one, which is excluded.
func keysFrom(keys []int, from, to int) []int {
	return slices.DeleteFunc(below(keys, to), func(key int) bool { return key < from })
}

func TestPromise141(t *testing.T) {
	eachStepped(t, func(list []impl.Lease, keys []int, s, got impl.Scan) {
		if !impl.ScanValid(got) || got.Next <= s.Next || len(got.Told) < len(s.Told) || !slices.Equal(got.Told[:len(s.Told)], s.Told) {
			t.Fatalf("ScanStep(%v, %v, %v) = %v", list, keys, s, got)
		}
	})
}

// What was told stays told, whether or not it is among the keys, and whether or not other keys below Next are.
func TestPromise141ToldBefore(t *testing.T) {
	for next := range impl.Circle {
		for _, s := range scansAt(next) {
			for _, keys := range [][]int{nil, {0}, allKeys(), allKeys()[next:], s.Told, below([]int{3, 20, 30, 63}, next)} {
				got := scanStep(t, twoLeases(), keys, s)
				if want := append(slices.Clone(s.Told), keysFrom(keys, next, got.Next)...); !slices.Equal(got.Told, want) {
					t.Fatalf("ScanStep(%v, %v, %v) = %v, want the told keys %v", twoLeases(), keys, s, got, want)
				}
			}
		}
	}
}

func TestPromise142(t *testing.T) {
	eachStepped(t, func(list []impl.Lease, keys []int, s, got impl.Scan) {
		if want := keysFrom(keys, s.Next, got.Next); !slices.Equal(got.Told[len(s.Told):], want) {
			t.Fatalf("ScanStep(%v, %v, %v) = %v, want the newly told keys %v", list, keys, s, got, want)
		}
	})
}

// The keys at the edges of a step: each position alone, and each position and its neighbours.
func TestPromise142Edges(t *testing.T) {
	for _, list := range goodLeases() {
		for next := range impl.Circle {
			for key := range impl.Circle {
				for _, keys := range [][]int{{key}, keysFrom([]int{key - 1, key, key + 1}, 0, impl.Circle)} {
					got := scanStep(t, list, keys, scan(next))
					if want := keysFrom(keys, next, got.Next); !slices.Equal(got.Told, want) {
						t.Fatalf("ScanStep(%v, %v, %v) = %v, want the told keys %v", list, keys, scan(next), got, want)
					}
				}
			}
		}
	}
}

// The leases of the passed positions are found by their index: two leases may be equal but for their End.
func TestPromise143(t *testing.T) {
	eachStepped(t, func(list []impl.Lease, keys []int, s, got impl.Scan) {
		want, holder := walkLease(list, s.Next), list[walkLease(list, s.Next)]
		for p := s.Next; p < got.Next; p++ {
			if l, ok := impl.LeaseOf(list, p); !ok || l != holder || walkLease(list, p) != want {
				t.Fatalf("ScanStep(%v, %v, %v) = %v, but %d is held by %v and %d by %v", list, keys, s, got, s.Next, holder, p, l)
			}
		}
	})
}

// A step passes as much as it may: behind it is another range, the other end of the only one, or the end of the circle.
func TestPromise143Whole(t *testing.T) {
	eachStepped(t, func(list []impl.Lease, keys []int, s, got impl.Scan) {
		if got.Next != impl.Circle && !hasEnd(list, got.Next-1) {
			t.Fatalf("ScanStep(%v, %v, %v) = %v, which stops within a range", list, keys, s, got)
		}
	})
}

func TestPromise144(t *testing.T) {
	done := 0
	for next := range impl.Circle + 1 {
		for _, s := range scansAt(next) {
			if !impl.ScanDone(s) {
				continue
			}
			if s.Next != impl.Circle {
				t.Fatalf("ScanDone(%v)", s)
			}
			for _, list := range scanLists() {
				for _, keys := range append(keyLists(), s.Told) {
					if got, ok := impl.ScanStep(list, keys, s); ok || !sameScan(got, s) {
						t.Fatalf("ScanStep(%v, %v, %v) = %v, %v", list, keys, s, got, ok)
					}
					done++
				}
			}
		}
	}
	succeeded(t, done)
}

// The scan that a last step returns is complete, and stays as it is.
func TestPromise144LastStep(t *testing.T) {
	count := 0
	eachStepped(t, func(list []impl.Lease, keys []int, s, got impl.Scan) {
		if impl.ScanDone(got) != (got.Next == impl.Circle) || impl.ScanDone(s) {
			t.Fatalf("ScanStep(%v, %v, %v) = %v, ScanDone is %v", list, keys, s, got, impl.ScanDone(got))
		}
		if got.Next != impl.Circle {
			return
		}
		count++
		if again, ok := impl.ScanStep(list, keys, got); ok || !sameScan(again, got) {
			t.Fatalf("ScanStep(%v, %v, %v) = %v, and then %v, %v", list, keys, s, got, again, ok)
		}
	})
	succeeded(t, count)
}

func TestPromise145(t *testing.T) {
	count, more := 0, 0
	eachWhole(func(list []impl.Lease, keys []int) {
		got, steps := impl.ScanAll(list, keys)
		if !slices.Equal(got, keys) || steps > len(list)+1 || steps != modelSteps(list) {
			t.Fatalf("ScanAll(%v, %v) = %v, %d, want %d steps", list, keys, got, steps, modelSteps(list))
		}
		count++
		if steps > len(list) {
			more++
		}
	})
	succeeded(t, more)
	succeeded(t, count-more)
}

func TestPromise146(t *testing.T) {
	eachWhole(func(list []impl.Lease, keys []int) {
		s, count := impl.Scan{}, 0
		for !impl.ScanDone(s) && count <= impl.Circle {
			s = scanStep(t, list, keys, s)
			count++
		}
		if got, steps := impl.ScanAll(list, keys); !slices.Equal(got, s.Told) || steps != count {
			t.Fatalf("ScanAll(%v, %v) = %v, %d, but ScanStep tells %v in %d steps", list, keys, got, steps, s.Told, count)
		}
	})
}

// scanOf performs a scan whose steps find what a history has, and returns what it tells and the moments of its steps.
func scanOf(t *testing.T, h history) ([]int, []moment) {
	t.Helper()
	s, found := impl.Scan{}, []moment{}
	for !impl.ScanDone(s) {
		m := h.at(len(found))
		s = scanStep(t, m.list, m.keys, s)
		found = append(found, m)
		if len(found) > impl.Circle {
			t.Fatalf("the scan does not end: %v", found)
		}
	}
	return s.Told, found
}

// momentsWith returns at how many of these moments a key is there.
func momentsWith(found []moment, key int) int {
	count := 0
	for _, m := range found {
		if slices.Contains(m.keys, key) {
			count++
		}
	}
	return count
}

// checkNeverMissed requires that a scan tells, each once and ascending, every key that is always there, and only keys that are there at some time.
func checkNeverMissed(t *testing.T, h history) []int {
	t.Helper()
	told, found := scanOf(t, h)
	for i := range told[:max(len(told)-1, 0)] {
		if told[i] >= told[i+1] {
			t.Fatalf("%v: told %v, not ascending", h, told)
		}
	}
	for key := range impl.Circle {
		times, isTold := momentsWith(found, key), slices.Contains(told, key)
		if times == len(found) && !isTold || times == 0 && isTold {
			t.Fatalf("%v: told %v; key %d is there at %d of %d steps", h, told, key, times, len(found))
		}
	}
	if len(told) > 0 && (told[0] < 0 || told[len(told)-1] >= impl.Circle) {
		t.Fatalf("%v: told %v", h, told)
	}
	return told
}

// withoutKey returns the other keys.
func withoutKey(keys []int, key int) []int {
	return slices.DeleteFunc(slices.Clone(keys), func(k int) bool { return k == key })
}

// A key comes or goes away ahead of the next position or behind it, once a first step has passed the positions 0 to 20 or a second one those up to 50.
func TestPromise147Cases(t *testing.T) {
	two := twoLeases()
	for _, x := range []struct {
		name string
		keys [3][]int
		want []int
	}{
		{"always there", [3][]int{{3, 30, 60}, {3, 30, 60}, {3, 30, 60}}, []int{3, 30, 60}},
		{"comes ahead", [3][]int{{3}, {3, 30, 60}, {3, 30, 60}}, []int{3, 30, 60}},
		{"comes far ahead", [3][]int{{3}, {3, 60}, {3, 60}}, []int{3, 60}},
		{"comes behind", [3][]int{{30}, {3, 30}, {3, 30}}, []int{30}},
		{"comes at the next position", [3][]int{{3}, {3, 21}, {3, 21}}, []int{3, 21}},
		{"comes one before the next position", [3][]int{{3}, {3, 20}, {3, 20}}, []int{3}},
		{"goes away before it is passed", [3][]int{{3, 30}, {3}, {3}}, []int{3}},
		{"goes away long before it is passed", [3][]int{{3, 60}, {3}, {3}}, []int{3}},
		{"goes away after it was told", [3][]int{{3, 30}, {30}, {30}}, []int{3, 30}},
		{"goes away after it was told, and comes back", [3][]int{{3, 30}, {30}, {3, 30}}, []int{3, 30}},
		{"is there only when it is passed", [3][]int{{3}, {30}, {60}}, []int{3, 30, 60}},
		{"is there at all other times", [3][]int{{30, 60}, {3, 60}, {3, 30}}, nil},
		{"goes away and comes back before it is passed", [3][]int{{60}, nil, {60}}, []int{60}},
		{"all change", [3][]int{allKeys()[:10], allKeys()[40:45], allKeys()}, slices.Concat(allKeys()[:10], allKeys()[40:45], allKeys()[51:])},
	} {
		if got := checkNeverMissed(t, history{{two, x.keys[0]}, {two, x.keys[1]}, {two, x.keys[2]}}); !slices.Equal(got, x.want) {
			t.Errorf("%s: told %v, want %v", x.name, got, x.want)
		}
	}
}

// Leases change while keys stay: ranges become shorter or longer, ahead of the next position, behind it and around it.
func TestPromise147Leases(t *testing.T) {
	first, keys := moment{twoLeases(), allKeys()}, allKeys()
	for _, ends := range leaseEnds() {
		for _, others := range leaseEnds() {
			second, third := leases(ends, []int{7, 40}, []int{10}), leases(others, []int{40, 7}, []int{0, 11})
			for _, h := range []history{{{second, keys}, {third, keys}}, {first, {second, keys}, {third, keys}}, {{second, keys}, {third, keys}, first, {second, keys}, {third, keys}}} {
				if got := checkNeverMissed(t, h); !slices.Equal(got, keys) {
					t.Fatalf("%v: told %v", h, got)
				}
			}
		}
	}
}

// A range may end at each position for each step, so that a scan has 64 steps, or one.
func TestPromise147ManySteps(t *testing.T) {
	for _, keys := range append(keyLists(), allKeys()) {
		h := history{}
		for end := range impl.Circle {
			h = append(h, moment{[]impl.Lease{lease(end, 7, 10)}, keys})
		}
		told, found := scanOf(t, h)
		if !slices.Equal(told, keys) || len(found) != impl.Circle {
			t.Errorf("a scan of %v tells %v in %d steps", keys, told, len(found))
		}
		told, found = scanOf(t, h[63:])
		if !slices.Equal(told, keys) || len(found) != 1 {
			t.Errorf("a scan of %v tells %v in %d steps", keys, told, len(found))
		}
	}
}

// All times at which a key can be there: it is told if it is there when it is passed, whatever other keys do.
func TestPromise147Times(t *testing.T) {
	lists := [][]impl.Lease{twoLeases(), leases([]int{10, 30, 63}, []int{7}, []int{10}), {lease(40, 7, 10)}, {lease(25, 40, 11), lease(45, 7, 0)}}
	count := 0
	for number := range 4 * 4 * 4 {
		ways := [][]impl.Lease{lists[number%4], lists[number/4%4], lists[number/16], lists[0]}
		_, found := scanOf(t, history{{ways[0], nil}, {ways[1], nil}, {ways[2], nil}, {ways[3], nil}})
		for key := range impl.Circle {
			for times := range 1 << len(found) {
				h := history{}
				for step, m := range found {
					others := withoutKey(keyLists()[(number+step)%len(keyLists())], key)
					if times>>step&1 == 1 {
						others = append(others, key)
						slices.Sort(others)
					}
					h = append(h, moment{m.list, others})
				}
				got, want := checkNeverMissed(t, h), times>>passedAt(t, h, key)&1 == 1
				if slices.Contains(got, key) != want {
					t.Fatalf("%v: told %v, key %d is passed by step %d", h, got, key, passedAt(t, h, key))
				}
				count++
			}
		}
	}
	succeeded(t, count)
}

// passedAt returns the step of a scan that passes a position, by a model of the steps.
func passedAt(t *testing.T, h history, position int) int {
	t.Helper()
	s := impl.Scan{}
	for step := range impl.Circle {
		s, _ = modelScanStep(h.at(step).list, nil, s)
		if s.Next > position {
			return step
		}
	}
	t.Fatalf("%v: position %d is not passed", h, position)
	return -1
}

// randomKeys returns keys of which some are always there, some never, and the others in one of three calls.
func randomKeys(random *spread, seed int) []int {
	return slices.DeleteFunc(allKeys(), func(key int) bool {
		kind := (key*7 + seed) % 5
		return kind == 0 || kind > 1 && random.below(3) > 0
	})
}

func TestPromise147Random(t *testing.T) {
	lists := scanLists()
	for seed := range 3000 {
		random, h := spread(seed), history{}
		for range impl.Circle {
			h = append(h, moment{lists[random.below(len(lists))], randomKeys(&random, seed)})
		}
		checkNeverMissed(t, h)
	}
}

// movedLeases returns the leases after one of the operations of chapter 12, or as they were if it is refused.
func movedLeases(random *spread, list []impl.Lease) []impl.Lease {
	at, owner := random.below(impl.Circle), []int{7, 40, 63}[random.below(3)]
	got, ok := list, true
	switch random.below(4) {
	case 0:
		got = impl.LeasesMerge(list)
	case 1:
		got, ok = impl.LeaseTake(list, at, owner, 500, 520)
	default:
		got, ok = impl.LeaseHand(list, list[walkLease(list, at)].Owner, at, owner, 10+random.below(2))
	}
	if !ok {
		return list
	}
	return got
}

// The leases are handed over, taken over and merged while a scan goes on.
func TestPromise147Operations(t *testing.T) {
	starts, count := scanLists(), 0
	for seed := range 3000 {
		random, list, h := spread(seed), starts[seed%len(starts)], history{}
		for range impl.Circle {
			h = append(h, moment{list, randomKeys(&random, seed)})
			for range random.below(4) {
				next := movedLeases(&random, list)
				if !slices.Equal(next, list) {
					count++
				}
				list = next
			}
		}
		checkNeverMissed(t, h)
	}
	succeeded(t, count)
}

// All lists of up to three numbers around the next position and the ends of the circle: those of valid scans are ascending and less than Next.
func TestPromise148(t *testing.T) {
	valid, numbers := 0, []int{-1, 0, 1, 29, 30, 31, 62, 63, 64}
	check := func(s impl.Scan) {
		got := impl.ScanValid(s)
		if want := modelScanValid(s); got != want {
			t.Fatalf("ScanValid(%v) = %v", s, got)
		}
		if !got {
			return
		}
		valid++
		for i, key := range s.Told {
			if key >= s.Next || i > 0 && s.Told[i-1] >= key {
				t.Fatalf("ScanValid(%v)", s)
			}
		}
	}
	for _, next := range []int{-1, 0, 1, 2, 29, 30, 31, 32, 61, 62, 63, 64, 65} {
		check(scan(next))
		for _, a := range numbers {
			check(scan(next, a))
			for _, b := range numbers {
				check(scan(next, a, b))
				for _, c := range numbers {
					check(scan(next, a, b, c))
				}
			}
		}
	}
	if valid < 100 {
		t.Errorf("only %d scans are valid", valid)
	}
}

// The scans of all steps are valid, so their told keys are ascending and less than Next.
func TestPromise148Steps(t *testing.T) {
	eachWhole(func(list []impl.Lease, keys []int) {
		s := impl.Scan{}
		for steps := 0; s.Next != impl.Circle && steps <= impl.Circle; steps++ {
			s = scanStep(t, list, keys, s)
			if !impl.ScanValid(s) || !modelScanValid(s) || len(s.Told) > 0 && slices.Max(s.Told) >= s.Next {
				t.Fatalf("a step of a scan of %v, %v returns %v", list, keys, s)
			}
		}
	})
}
