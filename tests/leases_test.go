package tests

import (
	"math"
	"slices"
	"testing"

	"loop.example/ringoverlay/impl"
)

// twoLeases has the range 51 to 20, which contains position 0, and the range 21 to 50.
func twoLeases() []impl.Lease {
	return []impl.Lease{lease(20, 7, 10), lease(50, 40, 11)}
}

// fullLeases has MaxLeases leases of one node.
func fullLeases() []impl.Lease {
	return leases(mostEnds(), []int{7}, []int{10})
}

// oneFewer has one lease fewer than MaxLeases: the range of End 30 begins at 19.
func oneFewer() []impl.Lease {
	return slices.Delete(fullLeases(), 5, 6)
}

// goodLeases are lists that are used with other arguments that are invalid.
func goodLeases() [][]impl.Lease {
	return [][]impl.Lease{{lease(20, 7, 10)}, {lease(0, 0, 0)}, {lease(impl.Circle-1, impl.Circle-1, impl.MaxTime)}, twoLeases(), oneFewer(), fullLeases()}
}

// badLeases returns lists that are invalid, by what is wrong with them.
func badLeases() map[string][]impl.Lease {
	return map[string][]impl.Lease{
		"nil":            nil,
		"empty":          {},
		"too long":       leases([]int{0, 1, 2, 3, 4, 5, 6, 7, 8, 9, 10, 11, 12}, []int{7}, []int{10}),
		"much too long":  leases(make([]int, 100), []int{7}, []int{10}),
		"descending":     {lease(50, 7, 10), lease(20, 7, 10)},
		"last descends":  {lease(20, 7, 10), lease(50, 7, 10), lease(49, 7, 10)},
		"rotated":        {lease(60, 7, 10), lease(20, 7, 10), lease(50, 7, 10)},
		"repeated":       {lease(20, 7, 10), lease(20, 7, 10)},
		"other repeated": {lease(20, 7, 10), lease(20, 40, 11)},
		"last repeated":  {lease(20, 7, 10), lease(50, 7, 10), lease(50, 40, 11)},
		"repeated later": {lease(20, 7, 10), lease(50, 7, 10), lease(20, 7, 10)},
		"-1 first":       {lease(-1, 7, 10), lease(0, 7, 10)},
		"extreme":        {lease(math.MinInt, math.MinInt, math.MinInt), lease(math.MaxInt, math.MaxInt, math.MaxInt)},
	}
}

// eachBadLeases calls check with these lists and with lists in which one number of one lease is out of range.
func eachBadLeases(check func(name string, list []impl.Lease)) {
	for name, list := range badLeases() {
		check(name, list)
	}
	for _, good := range goodLeases() {
		for i, l := range good {
			for _, p := range notPositions {
				check("End", slices.Replace(slices.Clone(good), i, i+1, lease(p, l.Owner, l.Until)))
				check("Owner", slices.Replace(slices.Clone(good), i, i+1, lease(l.End, p, l.Until)))
			}
			for _, time := range notTimes {
				check("Until", slices.Replace(slices.Clone(good), i, i+1, lease(l.End, l.Owner, time)))
			}
		}
	}
}

func TestLeasesValidCases(t *testing.T) {
	for _, list := range slices.Concat(leaseLists(), goodLeases()) {
		if !impl.LeasesValid(list) {
			t.Errorf("LeasesValid(%v) does not hold", list)
		}
	}
	eachBadLeases(func(name string, list []impl.Lease) {
		if impl.LeasesValid(list) {
			t.Errorf("%s: LeasesValid(%v) holds", name, list)
		}
	})
}

func TestLeaseOfCases(t *testing.T) {
	two, full := twoLeases(), fullLeases()
	ends := []impl.Lease{lease(0, 7, 10), lease(63, 40, 11)}
	for _, c := range []struct {
		list []impl.Lease
		key  int
		want impl.Lease
	}{
		{two, 19, two[0]}, {two, 20, two[0]}, {two, 21, two[1]}, {two, 49, two[1]}, {two, 50, two[1]}, {two, 51, two[0]}, {two, 60, two[0]}, {two, 63, two[0]}, {two, 0, two[0]},
		{ends, 0, ends[0]}, {ends, 1, ends[1]}, {ends, 62, ends[1]}, {ends, 63, ends[1]},
		{ends[:1], 0, ends[0]}, {ends[:1], 1, ends[0]}, {ends[:1], 63, ends[0]}, {ends[1:], 63, ends[1]}, {ends[1:], 0, ends[1]}, {ends[1:], 62, ends[1]},
		{two[:1], 19, two[0]}, {two[:1], 20, two[0]}, {two[:1], 21, two[0]}, {two[:1], 63, two[0]}, {two[:1], 0, two[0]},
		{full, 60, full[11]}, {full, 61, full[0]}, {full, 63, full[0]}, {full, 0, full[0]}, {full, 3, full[0]}, {full, 4, full[1]}, {full, 5, full[2]}, {full, 6, full[3]}, {full, 59, full[10]},
	} {
		if got, ok := impl.LeaseOf(c.list, c.key); !ok || got != c.want {
			t.Errorf("LeaseOf(%v, %d) = %v, %v, want %v", c.list, c.key, got, ok, c.want)
		}
	}
}

func TestLeaseKeysCases(t *testing.T) {
	two, full := twoLeases(), fullLeases()
	ends := []impl.Lease{lease(0, 7, 10), lease(63, 40, 11)}
	three := []impl.Lease{lease(20, 7, 10), lease(50, 40, 11), lease(60, 7, 12)}
	for _, c := range []struct {
		list        []impl.Lease
		owner, want int
	}{
		{two, 7, 34}, {two, 40, 30}, {two, 0, 0}, {two, 63, 0}, {two, 20, 0}, {three, 7, 34}, {three, 40, 30},
		{ends, 7, 1}, {ends, 40, 63}, {ends, 0, 0}, {ends[:1], 7, 64}, {ends[1:], 40, 64}, {ends[1:], 7, 0}, {two[:1], 7, 64}, {two[:1], 20, 0},
		{full, 7, 64}, {full, 3, 0}, {leases(mostEnds(), []int{7, 40}, []int{10}), 7, 33}, {leases(mostEnds(), []int{7, 40}, []int{10}), 40, 31},
	} {
		if got := impl.LeaseKeys(c.list, c.owner); got != c.want {
			t.Errorf("LeaseKeys(%v, %d) = %d, want %d", c.list, c.owner, got, c.want)
		}
	}
}

func TestLeaseHandCases(t *testing.T) {
	two := twoLeases()
	for _, c := range []struct {
		name                string
		list                []impl.Lease
		from, at, to, until int
		want                []impl.Lease
	}{
		{"in a range", two, 40, 30, 12, 15, []impl.Lease{two[0], lease(30, 12, 15), two[1]}},
		{"first of a range", two, 40, 21, 12, 15, []impl.Lease{two[0], lease(21, 12, 15), two[1]}},
		{"below an End", two, 40, 49, 12, 15, []impl.Lease{two[0], lease(49, 12, 15), two[1]}},
		{"End", two, 40, 50, 12, 15, []impl.Lease{two[0], lease(50, 12, 15)}},
		{"above the last End", two, 7, 51, 12, 15, []impl.Lease{two[0], two[1], lease(51, 12, 15)}},
		{"highest position", two, 7, 63, 12, 15, []impl.Lease{two[0], two[1], lease(63, 12, 15)}},
		{"position 0", two, 7, 0, 12, 15, []impl.Lease{lease(0, 12, 15), two[0], two[1]}},
		{"below the first End", two, 7, 19, 12, 15, []impl.Lease{lease(19, 12, 15), two[0], two[1]}},
		{"first End", two, 7, 20, 12, 15, []impl.Lease{lease(20, 12, 15), two[1]}},
		{"to itself", two, 40, 30, 40, 15, []impl.Lease{two[0], lease(30, 40, 15), two[1]}},
		{"to itself, the same time", two, 40, 30, 40, 11, []impl.Lease{two[0], lease(30, 40, 11), two[1]}},
		{"to itself as a whole", two, 40, 50, 40, 15, []impl.Lease{two[0], lease(50, 40, 15)}},
		{"to the other owner", two, 40, 30, 7, 10, []impl.Lease{two[0], lease(30, 7, 10), two[1]}},
		{"an earlier time", two, 40, 50, 12, 0, []impl.Lease{two[0], lease(50, 12, 0)}},
		{"the last time", two, 7, 20, 0, impl.MaxTime, []impl.Lease{lease(20, 0, 999), two[1]}},
		{"single, above", two[:1], 7, 21, 12, 15, []impl.Lease{two[0], lease(21, 12, 15)}},
		{"single, below", two[:1], 7, 19, 63, 15, []impl.Lease{lease(19, 63, 15), two[0]}},
		{"single, End", two[:1], 7, 20, 12, 15, []impl.Lease{lease(20, 12, 15)}},
		{"single, highest position", two[:1], 7, 63, 12, 15, []impl.Lease{two[0], lease(63, 12, 15)}},
		{"single, 0", two[:1], 7, 0, 12, 15, []impl.Lease{lease(0, 12, 15), two[0]}},
		{"one fewer", oneFewer(), 7, 19, 12, 15, slices.Insert(oneFewer(), 5, lease(19, 12, 15))},
		{"one fewer, 63", oneFewer(), 7, 63, 12, 15, append(oneFewer(), lease(63, 12, 15))},
		{"one fewer, 0", oneFewer(), 7, 0, 12, 15, slices.Insert(oneFewer(), 0, lease(0, 12, 15))},
		{"full, first End", fullLeases(), 7, 3, 12, 15, slices.Replace(fullLeases(), 0, 1, lease(3, 12, 15))},
		{"full, End", fullLeases(), 7, 18, 12, 15, slices.Replace(fullLeases(), 4, 5, lease(18, 12, 15))},
		{"full, last End", fullLeases(), 7, 60, 12, 15, slices.Replace(fullLeases(), 11, 12, lease(60, 12, 15))},
	} {
		got, ok := impl.LeaseHand(c.list, c.from, c.at, c.to, c.until)
		if !ok || !slices.Equal(got, c.want) {
			t.Errorf("%s: LeaseHand(%v, %d, %d, %d, %d) = %v, %v, want %v", c.name, c.list, c.from, c.at, c.to, c.until, got, ok, c.want)
		}
	}
}

func TestLeaseHandRefused(t *testing.T) {
	for _, c := range []struct {
		name                string
		list                []impl.Lease
		from, at, to, until int
	}{
		{"other owner", twoLeases(), 7, 30, 12, 15}, {"other owner, End", twoLeases(), 7, 50, 12, 15}, {"other owner, to itself", twoLeases(), 12, 50, 12, 15}, {"to the owner", twoLeases(), 7, 30, 40, 15},
		{"just above a range", twoLeases(), 7, 21, 12, 15}, {"just below a range", twoLeases(), 40, 20, 12, 15}, {"highest position", twoLeases(), 40, 63, 12, 15}, {"position 0", twoLeases(), 40, 0, 12, 15}, {"above the last End", twoLeases(), 40, 51, 12, 15},
		{"no owner", twoLeases(), 30, 30, 12, 15}, {"single", twoLeases()[:1], 12, 20, 40, 15}, {"single, 63", twoLeases()[:1], 12, 63, 40, 15},
		{"full", fullLeases(), 7, 17, 12, 15}, {"full, 61", fullLeases(), 7, 61, 12, 15}, {"full, 63", fullLeases(), 7, 63, 12, 15}, {"full, 0", fullLeases(), 7, 0, 12, 15}, {"full, 2", fullLeases(), 7, 2, 12, 15}, {"full, to itself", fullLeases(), 7, 17, 7, 10},
		{"full and other owner", fullLeases(), 12, 17, 7, 15}, {"full, End, other owner", fullLeases(), 12, 18, 7, 15}, {"one fewer, other owner", oneFewer(), 12, 19, 7, 15},
	} {
		got, ok := impl.LeaseHand(c.list, c.from, c.at, c.to, c.until)
		if ok || !slices.Equal(got, c.list) {
			t.Errorf("%s: LeaseHand(%v, %d, %d, %d, %d) = %v, %v", c.name, c.list, c.from, c.at, c.to, c.until, got, ok)
		}
	}
}

func TestLeaseTakeCases(t *testing.T) {
	two := twoLeases()
	last := []impl.Lease{lease(20, 7, impl.MaxTime-1), lease(50, 40, impl.MaxTime)}
	for _, c := range []struct {
		list                []impl.Lease
		key, to, now, until int
		want                []impl.Lease
	}{
		{two, 30, 12, 12, 32, []impl.Lease{two[0], lease(50, 12, 32)}}, {two, 30, 12, 11, 32, nil}, {two, 30, 12, 10, 32, nil}, {two, 30, 12, 0, 32, nil},
		{two, 20, 12, 11, 31, []impl.Lease{lease(20, 12, 31), two[1]}}, {two, 20, 12, 10, 31, nil}, {two, 20, 12, 9, 31, nil},
		{two, 21, 12, 11, 31, nil}, {two, 21, 12, 12, 31, []impl.Lease{two[0], lease(50, 12, 31)}}, {two, 50, 12, 12, 31, []impl.Lease{two[0], lease(50, 12, 31)}}, {two, 50, 12, 11, 31, nil},
		{two, 51, 12, 11, 31, []impl.Lease{lease(20, 12, 31), two[1]}}, {two, 63, 12, 11, 31, []impl.Lease{lease(20, 12, 31), two[1]}}, {two, 0, 12, 11, 31, []impl.Lease{lease(20, 12, 31), two[1]}}, {two, 63, 12, 10, 31, nil}, {two, 0, 12, 10, 31, nil},
		{two, 30, 40, 12, 32, []impl.Lease{two[0], lease(50, 40, 32)}}, {two, 30, 7, 12, 10, []impl.Lease{two[0], lease(50, 7, 10)}}, {two, 30, 0, 12, 0, []impl.Lease{two[0], lease(50, 0, 0)}}, {two, 30, 63, 999, 999, []impl.Lease{two[0], lease(50, 63, 999)}},
		{two[:1], 63, 12, 11, 31, []impl.Lease{lease(20, 12, 31)}}, {two[:1], 20, 12, 11, 31, []impl.Lease{lease(20, 12, 31)}}, {two[:1], 21, 12, 10, 31, nil},
		{last, 20, 12, 999, 999, []impl.Lease{lease(20, 12, 999), last[1]}}, {last, 20, 12, 998, 999, nil}, {last, 50, 12, 999, 999, nil}, {[]impl.Lease{lease(20, 7, 0)}, 5, 12, 0, 20, nil}, {[]impl.Lease{lease(20, 7, 0)}, 5, 12, 1, 20, []impl.Lease{lease(20, 12, 20)}},
		{fullLeases(), 61, 12, 11, 31, slices.Replace(fullLeases(), 0, 1, lease(3, 12, 31))}, {fullLeases(), 60, 12, 11, 31, slices.Replace(fullLeases(), 11, 12, lease(60, 12, 31))}, {fullLeases(), 19, 12, 11, 31, slices.Replace(fullLeases(), 5, 6, lease(25, 12, 31))}, {fullLeases(), 19, 12, 10, 31, nil},
	} {
		want, succeeds := c.want, c.want != nil
		if !succeeds {
			want = c.list
		}
		if got, ok := impl.LeaseTake(c.list, c.key, c.to, c.now, c.until); ok != succeeds || !slices.Equal(got, want) {
			t.Errorf("LeaseTake(%v, %d, %d, %d, %d) = %v, %v, want %v", c.list, c.key, c.to, c.now, c.until, got, ok, want)
		}
	}
}

func TestLeaseRenewCases(t *testing.T) {
	two := twoLeases()
	// The times are just below and at the limits 10 and 30, and just above them.
	many := leases([]int{0, 10, 20, 30, 40, 50, 63}, []int{7}, []int{9, 10, 11, 28, 29, 30, 31})
	for _, c := range []struct {
		list              []impl.Lease
		owner, now, until int
		want              []int // the times of the leases afterwards
		count             int
	}{
		{two, 7, 9, 30, []int{30, 11}, 1}, {two, 7, 10, 30, []int{30, 11}, 1}, {two, 7, 11, 30, []int{10, 11}, 0},
		{two, 40, 10, 30, []int{10, 30}, 1}, {two, 40, 11, 30, []int{10, 30}, 1}, {two, 40, 12, 30, []int{10, 11}, 0},
		{two, 7, 5, 9, []int{10, 11}, 0}, {two, 7, 5, 10, []int{10, 11}, 0}, {two, 7, 5, 11, []int{11, 11}, 1},
		{two, 7, 10, 5, []int{10, 11}, 0}, {two, 20, 0, 999, []int{10, 11}, 0}, {two, 50, 0, 999, []int{10, 11}, 0}, {two, 0, 0, 999, []int{10, 11}, 0}, {two, 63, 0, 999, []int{10, 11}, 0},
		{many, 7, 10, 30, []int{9, 30, 30, 30, 30, 30, 31}, 4}, {many, 7, 0, 999, []int{999, 999, 999, 999, 999, 999, 999}, 7}, {many, 7, 0, 0, []int{9, 10, 11, 28, 29, 30, 31}, 0}, {many, 7, 999, 999, []int{9, 10, 11, 28, 29, 30, 31}, 0}, {many, 40, 10, 30, []int{9, 10, 11, 28, 29, 30, 31}, 0},
		{two[:1], 7, 10, 11, []int{11}, 1}, {two[:1], 7, 11, 12, []int{10}, 0}, {[]impl.Lease{lease(20, 0, 0)}, 0, 0, 1, []int{1}, 1}, {[]impl.Lease{lease(20, 0, 998)}, 0, 998, 999, []int{999}, 1}, {[]impl.Lease{lease(20, 0, 999)}, 0, 999, 999, []int{999}, 0},
		{leases(mostEnds(), []int{7, 40}, []int{10}), 7, 10, 30, []int{30, 10, 30, 10, 30, 10, 30, 10, 30, 10, 30, 10}, 6}, {fullLeases(), 7, 10, 30, []int{30, 30, 30, 30, 30, 30, 30, 30, 30, 30, 30, 30}, 12},
	} {
		want := slices.Clone(c.list)
		for i := range want {
			want[i].Until = c.want[i]
		}
		if got, count := impl.LeaseRenew(c.list, c.owner, c.now, c.until); count != c.count || !slices.Equal(got, want) {
			t.Errorf("LeaseRenew(%v, %d, %d, %d) = %v, %d, want %v, %d", c.list, c.owner, c.now, c.until, got, count, want, c.count)
		}
	}
}

func TestLeasesMergeCases(t *testing.T) {
	for _, c := range []struct {
		name       string
		list, want []impl.Lease
	}{
		{"single", []impl.Lease{lease(20, 7, 10)}, []impl.Lease{lease(20, 7, 10)}},
		{"nothing alike", twoLeases(), twoLeases()},
		{"alike", leases([]int{20, 50}, []int{7}, []int{10}), []impl.Lease{lease(50, 7, 10)}},
		{"another time", leases([]int{20, 50}, []int{7}, []int{10, 11}), leases([]int{20, 50}, []int{7}, []int{10, 11})},
		{"another owner", leases([]int{20, 50}, []int{7, 40}, []int{10}), leases([]int{20, 50}, []int{7, 40}, []int{10})},
		{"first two", leases([]int{20, 50, 60}, []int{7, 7, 40}, []int{10}), []impl.Lease{lease(50, 7, 10), lease(60, 40, 10)}},
		{"last two", leases([]int{20, 50, 60}, []int{40, 7, 7}, []int{10}), []impl.Lease{lease(20, 40, 10), lease(60, 7, 10)}},
		{"middle two", leases([]int{0, 20, 50, 63}, []int{40, 7, 7, 12}, []int{10}), []impl.Lease{lease(0, 40, 10), lease(50, 7, 10), lease(63, 12, 10)}},
		{"last and first", leases([]int{20, 50, 60}, []int{7, 40, 7}, []int{10}), leases([]int{20, 50, 60}, []int{7, 40, 7}, []int{10})},
		{"last and first around 0", leases([]int{0, 50, 63}, []int{7, 40, 7}, []int{10}), leases([]int{0, 50, 63}, []int{7, 40, 7}, []int{10})},
		{"last and first several", leases([]int{0, 1, 50, 62, 63}, []int{7, 7, 40, 7, 7}, []int{10}), leases([]int{1, 50, 63}, []int{7, 40, 7}, []int{10})},
		{"several in a row", leases([]int{0, 1, 2, 30, 40, 41, 42, 43, 63}, []int{7, 7, 7, 40, 12, 12, 12, 12, 7}, []int{10}), leases([]int{2, 30, 43, 63}, []int{7, 40, 12, 7}, []int{10})},
		{"two rows of one owner", leases([]int{0, 1, 2, 3, 4, 5}, []int{7}, []int{10, 10, 10, 11, 11, 11}), leases([]int{2, 5}, []int{7}, []int{10, 11})},
		{"alike but not neighbours", leases([]int{0, 1, 2, 3}, []int{7, 40}, []int{10}), leases([]int{0, 1, 2, 3}, []int{7, 40}, []int{10})},
		{"full, all alike", fullLeases(), []impl.Lease{lease(60, 7, 10)}},
		{"full, pairs", leases(mostEnds(), []int{7, 7, 40, 40}, []int{10}), leases([]int{4, 11, 25, 37, 50, 60}, []int{7, 40}, []int{10})},
		{"full, nothing alike", leases(mostEnds(), []int{7}, []int{10, 11}), leases(mostEnds(), []int{7}, []int{10, 11})},
	} {
		if got := impl.LeasesMerge(c.list); !slices.Equal(got, c.want) {
			t.Errorf("%s: LeasesMerge(%v) = %v, want %v", c.name, c.list, got, c.want)
		}
	}
}

// The answers are compared with those of a model that walks along the circle.
func TestLeasesWalked(t *testing.T) {
	eachHeld(func(list []impl.Lease, key int) {
		if got, ok := impl.LeaseOf(list, key); !ok || got != list[walkLease(list, key)] {
			t.Fatalf("LeaseOf(%v, %d) = %v, %v", list, key, got, ok)
		}
		if got, want := impl.LeaseKeys(list, key), modelKeys(list, key); got != want {
			t.Fatalf("LeaseKeys(%v, %d) = %d, want %d", list, key, got, want)
		}
	})
	eachHand(func(list []impl.Lease, from, at, to, until int) {
		want, succeeds := modelHand(list, from, at, to, until)
		if got, ok := impl.LeaseHand(list, from, at, to, until); ok != succeeds || !slices.Equal(got, want) {
			t.Fatalf("LeaseHand(%v, %d, %d, %d, %d) = %v, %v, want %v, %v", list, from, at, to, until, got, ok, want, succeeds)
		}
	})
	eachTake(func(list []impl.Lease, key, to, now, until int) {
		want, succeeds := modelTake(list, key, to, now, until)
		if got, ok := impl.LeaseTake(list, key, to, now, until); ok != succeeds || !slices.Equal(got, want) {
			t.Fatalf("LeaseTake(%v, %d, %d, %d, %d) = %v, %v, want %v, %v", list, key, to, now, until, got, ok, want, succeeds)
		}
	})
	eachRenew(func(list []impl.Lease, owner, now, until int) {
		want, number := modelRenew(list, owner, now, until)
		if got, count := impl.LeaseRenew(list, owner, now, until); count != number || !slices.Equal(got, want) {
			t.Fatalf("LeaseRenew(%v, %d, %d, %d) = %v, %d, want %v, %d", list, owner, now, until, got, count, want, number)
		}
	})
	eachMerge(func(list []impl.Lease) {
		if got, want := impl.LeasesMerge(list), modelMerge(list); !slices.Equal(got, want) {
			t.Fatalf("LeasesMerge(%v) = %v, want %v", list, got, want)
		}
	})
}

// checkNoHand requires that LeaseHand returns no leases at all.
func checkNoHand(t *testing.T, list []impl.Lease, from, at, to, until int) {
	t.Helper()
	if got, ok := impl.LeaseHand(list, from, at, to, until); ok || len(got) != 0 {
		t.Errorf("LeaseHand(%v, %d, %d, %d, %d) = %v, %v, want none", list, from, at, to, until, got, ok)
	}
}

func checkNoTake(t *testing.T, list []impl.Lease, key, to, now, until int) {
	t.Helper()
	if got, ok := impl.LeaseTake(list, key, to, now, until); ok || len(got) != 0 {
		t.Errorf("LeaseTake(%v, %d, %d, %d, %d) = %v, %v, want none", list, key, to, now, until, got, ok)
	}
}

func checkNoRenew(t *testing.T, list []impl.Lease, owner, now, until int) {
	t.Helper()
	if got, count := impl.LeaseRenew(list, owner, now, until); count != -1 || len(got) != 0 {
		t.Errorf("LeaseRenew(%v, %d, %d, %d) = %v, %d, want none and -1", list, owner, now, until, got, count)
	}
}

func checkNoLeaseOf(t *testing.T, list []impl.Lease, key int) {
	t.Helper()
	if got, ok := impl.LeaseOf(list, key); ok || got != (impl.Lease{}) {
		t.Errorf("LeaseOf(%v, %d) = %v, %v", list, key, got, ok)
	}
}

func checkNoLeaseKeys(t *testing.T, list []impl.Lease, owner int) {
	t.Helper()
	if got := impl.LeaseKeys(list, owner); got != -1 {
		t.Errorf("LeaseKeys(%v, %d) = %d, want -1", list, owner, got)
	}
}

func TestLeasesInvalid(t *testing.T) {
	eachBadLeases(func(_ string, list []impl.Lease) {
		if got := impl.LeasesMerge(list); len(got) != 0 {
			t.Errorf("LeasesMerge(%v) = %v, want none", list, got)
		}
		for _, p := range []int{0, 7, 20, 40, 63, -1, impl.Circle} {
			checkNoLeaseOf(t, list, p)
			checkNoLeaseKeys(t, list, p)
			for _, q := range []int{0, 7, 20, 60, -1} {
				checkNoHand(t, list, p, q, 12, 15)
				checkNoTake(t, list, q, p, 500, 520)
				checkNoTake(t, list, q, p, 0, 20)
			}
			checkNoRenew(t, list, p, 0, 30)
			checkNoRenew(t, list, p, 10, impl.MaxTime)
		}
	})
}

// Whether an argument is out of range is checked before all other conditions, so some of these calls would also be refused.
func TestLeaseBadPositions(t *testing.T) {
	for _, list := range goodLeases() {
		for _, bad := range notPositions {
			checkNoLeaseOf(t, list, bad)
			checkNoLeaseKeys(t, list, bad)
			for _, p := range []int{0, 7, 20, 21, 60, impl.Circle - 1} {
				for _, l := range list {
					checkNoHand(t, list, bad, p, 12, 15)
					checkNoHand(t, list, l.Owner, bad, p, 15)
					checkNoHand(t, list, l.Owner, p, bad, 15)
				}
				for _, now := range []int{0, 10, 11, impl.MaxTime} {
					checkNoTake(t, list, bad, p, now, 30)
					checkNoTake(t, list, p, bad, now, 30)
					checkNoRenew(t, list, bad, now, 30)
				}
			}
		}
	}
}

func TestLeaseBadTimes(t *testing.T) {
	for _, list := range goodLeases() {
		for _, bad := range notTimes {
			for _, p := range []int{0, 7, 20, 21, 60, impl.Circle - 1} {
				for _, owner := range []int{0, 7, 40, impl.Circle - 1} {
					checkNoHand(t, list, owner, p, 12, bad)
				}
				for _, good := range []int{0, 10, 11, impl.MaxTime} {
					checkNoTake(t, list, p, 12, bad, good)
					checkNoTake(t, list, p, 12, good, bad)
					checkNoRenew(t, list, p, bad, good)
					checkNoRenew(t, list, p, good, bad)
				}
				checkNoTake(t, list, p, 12, bad, bad)
				checkNoRenew(t, list, p, bad, bad)
			}
		}
	}
}
