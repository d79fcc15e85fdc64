package tests

import (
	"slices"
	"testing"

	"loop.example/ringoverlay/impl"
)

func TestPromise63(t *testing.T) {
	for _, list := range leaseLists() {
		counts := map[impl.Lease]int{}
		for key := range impl.Circle {
			l, ok := impl.LeaseOf(list, key)
			if !ok || !slices.Contains(list, l) {
				t.Fatalf("LeaseOf(%v, %d) = %v, %v", list, key, l, ok)
			}
			counts[l]++
		}
		together := 0
		for i, l := range list {
			before := list[(i+len(list)-1)%len(list)].End
			keys := 0
			for p := range impl.Circle {
				if walkHolds(before, l.End, p) {
					keys++
				}
			}
			if counts[l] != keys {
				t.Fatalf("%v of %v holds %d keys, but its range has %d", l, list, counts[l], keys)
			}
			together += keys
		}
		if together != impl.Circle {
			t.Fatalf("the ranges of %v have together %d keys", list, together)
		}
	}
}

func TestPromise64(t *testing.T) {
	eachHeld(func(list []impl.Lease, key int) {
		l, ok := impl.LeaseOf(list, key)
		if !ok {
			t.Fatalf("LeaseOf(%v, %d) fails", list, key)
		}
		others := []int{l.End}
		for p := key; p <= l.End; p++ {
			others = append(others, p)
		}
		for _, p := range others {
			if other, fine := impl.LeaseOf(list, p); !fine || other != l {
				t.Fatalf("LeaseOf(%v, %d) = %v, but that of %d is %v", list, key, l, p, other)
			}
		}
	})
}

// givenTo returns who holds the keys after those of a range up to a key were given to a node.
func givenTo(list []impl.Lease, was [impl.Circle]impl.Lease, at, to, until int) [impl.Circle]impl.Lease {
	for p := at; ; p = down(p) {
		was[p] = lease(0, to, until)
		if hasEnd(list, down(p)) {
			return was
		}
	}
}

func hasEnd(list []impl.Lease, end int) bool {
	return slices.ContainsFunc(list, func(l impl.Lease) bool { return l.End == end })
}

// succeeded requires that a promise that begins with a condition was tested.
func succeeded(t *testing.T, count int) {
	t.Helper()
	if count < 1000 {
		t.Errorf("the promise was tested only %d times", count)
	}
}

// eachHanded calls check for the calls of eachHand that succeed.
func eachHanded(t *testing.T, check func(list, got []impl.Lease, from, at, to, until int)) {
	t.Helper()
	count := 0
	eachHand(func(list []impl.Lease, from, at, to, until int) {
		if got, ok := impl.LeaseHand(list, from, at, to, until); ok {
			check(list, got, from, at, to, until)
			count++
		}
	})
	succeeded(t, count)
}

func TestPromise65(t *testing.T) {
	eachHanded(t, func(list, got []impl.Lease, from, at, to, until int) {
		want := givenTo(list, heldBy(t, list), at, to, until)
		if is := heldBy(t, got); is != want {
			t.Fatalf("after LeaseHand(%v, %d, %d, %d, %d) the keys are held by %v, want %v", list, from, at, to, until, is, want)
		}
	})
}

func TestPromise66(t *testing.T) {
	eachHanded(t, func(list, got []impl.Lease, from, at, to, until int) {
		was, _ := impl.LeaseOf(list, at)
		is, ok := impl.LeaseOf(got, at)
		if was.Owner != from || !ok || is.Owner != to {
			t.Fatalf("LeaseHand(%v, %d, %d, %d, %d) = %v", list, from, at, to, until, got)
		}
	})
}

func TestPromise67(t *testing.T) {
	failed := 0
	eachHand(func(list []impl.Lease, from, at, to, until int) {
		holder, _ := impl.LeaseOf(list, at)
		full := len(list) == impl.MaxLeases && holder.End != at
		got, ok := impl.LeaseHand(list, from, at, to, until)
		if ok == (holder.Owner != from || full) {
			t.Fatalf("LeaseHand(%v, %d, %d, %d, %d) = %v, %v", list, from, at, to, until, got, ok)
		}
		if !ok && !slices.Equal(got, list) {
			t.Fatalf("LeaseHand(%v, %d, %d, %d, %d) fails with %v", list, from, at, to, until, got)
		}
		if holder.Owner == from && full {
			failed++
		}
	})
	succeeded(t, failed)
}

func TestPromise68(t *testing.T) {
	eachHanded(t, func(list, got []impl.Lease, from, at, to, until int) {
		want := len(list) + 1
		if hasEnd(list, at) {
			want--
		}
		if len(got) != want {
			t.Fatalf("LeaseHand(%v, %d, %d, %d, %d) = %v has %d leases, want %d", list, from, at, to, until, got, len(got), want)
		}
	})
}

func TestPromise69(t *testing.T) {
	eachHanded(t, func(list, got []impl.Lease, from, at, to, until int) {
		back, ok := impl.LeaseHand(got, to, at, from, until)
		if !ok {
			t.Fatalf("LeaseHand(%v, %d, %d, %d, %d) back fails", got, to, at, from, until)
		}
		if was, is := impl.LeaseKeys(list, from), impl.LeaseKeys(back, from); was != is || was < 1 {
			t.Fatalf("node %d held %d keys of %v, and %d of %v after it was handed %d back", from, was, list, is, back, at)
		}
	})
}

func TestPromise70(t *testing.T) {
	count := 0
	eachTake(func(list []impl.Lease, key, to, now, until int) {
		holder, _ := impl.LeaseOf(list, key)
		got, ok := impl.LeaseTake(list, key, to, now, until)
		if ok != (holder.Until < now) {
			t.Fatalf("LeaseTake(%v, %d, %d, %d, %d) = %v, %v", list, key, to, now, until, got, ok)
		}
		if !ok && !slices.Equal(got, list) {
			t.Fatalf("LeaseTake(%v, %d, %d, %d, %d) fails with %v", list, key, to, now, until, got)
		}
		if !ok {
			count++
		}
	})
	succeeded(t, count)
}

// eachTaken calls check for the calls of eachTake that succeed.
func eachTaken(t *testing.T, check func(list, got []impl.Lease, key, to, now, until int)) {
	t.Helper()
	count := 0
	eachTake(func(list []impl.Lease, key, to, now, until int) {
		if got, ok := impl.LeaseTake(list, key, to, now, until); ok {
			check(list, got, key, to, now, until)
			count++
		}
	})
	succeeded(t, count)
}

func TestPromise71(t *testing.T) {
	eachTaken(t, func(list, got []impl.Lease, key, to, now, until int) {
		end := list[walkLease(list, key)].End
		want := givenTo(list, heldBy(t, list), end, to, until)
		if is := heldBy(t, got); is != want {
			t.Fatalf("after LeaseTake(%v, %d, %d, %d, %d) the keys are held by %v, want %v", list, key, to, now, until, is, want)
		}
	})
}

func TestPromise72(t *testing.T) {
	eachTaken(t, func(list, got []impl.Lease, key, to, now, until int) {
		if until < now {
			return
		}
		for _, other := range []int{0, 7, 40, to} {
			if again, ok := impl.LeaseTake(got, key, other, now, until); ok || !slices.Equal(again, got) {
				t.Fatalf("LeaseTake(%v, %d, %d, %d, %d) = %v, %v after one of %d", got, key, other, now, until, again, ok, to)
			}
		}
	})
}

func TestPromise73(t *testing.T) {
	count := 0
	eachRenew(func(list []impl.Lease, owner, now, until int) {
		got, n := impl.LeaseRenew(list, owner, now, until)
		if len(got) != len(list) {
			t.Fatalf("LeaseRenew(%v, %d, %d, %d) = %v", list, owner, now, until, got)
		}
		for i, l := range list {
			if l.Owner == owner && l.Until >= now && l.Until < until {
				l.Until = until
				n--
				count++
			}
			if got[i] != l {
				t.Fatalf("LeaseRenew(%v, %d, %d, %d) = %v has %v, want %v", list, owner, now, until, got, got[i], l)
			}
		}
		if n != 0 {
			t.Fatalf("LeaseRenew(%v, %d, %d, %d) counts %d leases too many", list, owner, now, until, n)
		}
	})
	succeeded(t, count)
}

func TestPromise74(t *testing.T) {
	eachRenew(func(list []impl.Lease, owner, now, until int) {
		got, _ := impl.LeaseRenew(list, owner, now, until)
		if again, n := impl.LeaseRenew(got, owner, now, until); n != 0 || !slices.Equal(again, got) {
			t.Fatalf("LeaseRenew(%v, %d, %d, %d) renews %d leases again", got, owner, now, until, n)
		}
	})
}

func TestPromise75(t *testing.T) {
	eachRenew(func(list []impl.Lease, owner, now, until int) {
		got, _ := impl.LeaseRenew(list, owner, now, until)
		for i, l := range list {
			if i >= len(got) || got[i].Until < l.Until {
				t.Fatalf("LeaseRenew(%v, %d, %d, %d) = %v makes the time of %v earlier", list, owner, now, until, got, l)
			}
		}
	})
}

// eachMerge calls check for all lists and all short ones.
func eachMerge(check func(list []impl.Lease)) {
	for _, list := range leaseLists() {
		check(list)
	}
	shortLists(check)
}

func TestPromise76(t *testing.T) {
	shorter := 0
	eachMerge(func(list []impl.Lease) {
		got := impl.LeasesMerge(list)
		if !impl.LeasesValid(got) || heldBy(t, got) != heldBy(t, list) {
			t.Fatalf("LeasesMerge(%v) = %v", list, got)
		}
		for i := 1; i < len(got); i++ {
			if got[i].Owner == got[i-1].Owner && got[i].Until == got[i-1].Until {
				t.Fatalf("LeasesMerge(%v) = %v does not merge %v", list, got, got[i])
			}
		}
		if len(got) < len(list) {
			shorter++
		}
	})
	if shorter < 500 {
		t.Errorf("only %d lists became shorter", shorter)
	}
}

func TestPromise77(t *testing.T) {
	eachMerge(func(list []impl.Lease) {
		got := impl.LeasesMerge(list)
		if again := impl.LeasesMerge(got); len(got) == 0 || !slices.Equal(again, got) {
			t.Fatalf("LeasesMerge(%v) = %v, and of this it is %v", list, got, again)
		}
	})
}

func TestPromise78(t *testing.T) {
	for _, list := range leaseLists() {
		together := 0
		for owner := range impl.Circle {
			keys := impl.LeaseKeys(list, owner)
			if keys < 0 {
				t.Fatalf("LeaseKeys(%v, %d) = %d", list, owner, keys)
			}
			together += keys
		}
		if together != impl.Circle {
			t.Fatalf("the nodes of %v hold together %d keys", list, together)
		}
	}
}

func TestPromise79(t *testing.T) {
	count := 0
	eachHeld(func(list []impl.Lease, at int) {
		was := heldBy(t, list)
		for _, until := range []int{0, 10, impl.MaxTime} {
			got, ok := impl.LeaseHand(list, was[at].Owner, at, was[at].Owner, until)
			if !ok {
				continue // there are MaxLeases leases
			}
			is := heldBy(t, got)
			if is[at].Until != until {
				t.Fatalf("LeaseHand(%v, %d, %d, %d, %d) = %v", list, was[at].Owner, at, was[at].Owner, until, got)
			}
			for p := range is {
				if is[p].Owner != was[p].Owner {
					t.Fatalf("LeaseHand(%v, %d, %d, %d, %d) = %v changes the holder of %d", list, was[at].Owner, at, was[at].Owner, until, got, p)
				}
			}
			count++
		}
	})
	succeeded(t, count)
}
