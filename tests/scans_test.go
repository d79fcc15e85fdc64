package tests

import (
	"math"
	"slices"
	"testing"

	"loop.example/ringoverlay/impl"
)

// goodKeys are keys that are used with other arguments that are invalid.
func goodKeys() [][]int {
	return [][]int{nil, {}, {0}, {20}, {63}, {3, 30, 60}, allKeys()}
}

// badKeys returns lists that are not keys, by what is wrong with them.
func badKeys() map[string][]int {
	all := allKeys()
	return map[string][]int{
		"descending":         {30, 3},
		"first descends":     {30, 3, 60},
		"last descends":      {3, 60, 30},
		"one below":          {31, 30},
		"rotated":            {60, 3, 30},
		"repeated":           {30, 30},
		"0 repeated":         {0, 0},
		"63 repeated":        {63, 63},
		"first repeated":     {3, 3, 60},
		"last repeated":      {3, 60, 60},
		"repeated later":     {3, 60, 3},
		"-1":                 {-1},
		"-1 first":           {-1, 0, 60},
		"-1 last":            {3, 60, -1},
		"Circle":             {impl.Circle},
		"Circle last":        {3, 60, impl.Circle},
		"Circle first":       {impl.Circle, 0},
		"all, one too high":  append(slices.Clone(all), impl.Circle),
		"all, one too low":   append([]int{-1}, all...),
		"all, last repeated": append(slices.Clone(all), 63),
		"all, reversed":      {63, 62, 61, 2, 1, 0},
		"extreme":            {math.MinInt, math.MaxInt},
		"extreme, first":     {math.MinInt, 3},
		"extreme, last":      {3, math.MaxInt},
	}
}

// eachBadKeys calls check with these lists and with lists in which one key is out of range.
func eachBadKeys(check func(name string, keys []int)) {
	for name, keys := range badKeys() {
		check(name, keys)
	}
	for _, good := range goodKeys() {
		for i := range good {
			for _, bad := range notPositions {
				check("not a position", replacedAt(good, i, bad))
			}
		}
	}
}

// goodScans are scans that are used with other arguments that are invalid, the last two of them complete.
func goodScans() []impl.Scan {
	return []impl.Scan{{}, scan(20), scan(20, 19), scan(21, 3, 20), scan(63, allKeys()[:63]...), scan(64), scan(64, 3, 30, 63)}
}

// eachBadScan calls check with scans that are invalid: the next position is not one, or the told keys are not keys below it.
func eachBadScan(check func(s impl.Scan)) {
	for _, next := range notNexts {
		for _, told := range [][]int{nil, {}, {0}, {3, 30}, {next - 1}, {63}, {64}} {
			check(scan(next, told...))
		}
	}
	eachBadKeys(func(_ string, told []int) {
		for _, next := range []int{0, 1, 31, 61, 63, 64} {
			check(scan(next, told...))
		}
	})
	for next := range impl.Circle {
		for higher := next; higher <= impl.Circle; higher++ {
			check(scan(next, higher))
			check(scan(next, append(below([]int{0, 20}, next), higher)...))
		}
	}
}

func TestScanValidCases(t *testing.T) {
	all := allKeys()
	for _, x := range []struct {
		scan impl.Scan
		want bool
	}{
		{impl.Scan{}, true}, {scan(-1), false}, {scan(0), true}, {scan(1), true}, {scan(63), true}, {scan(64), true}, {scan(65), false},
		{impl.Scan{Told: []int{}}, true}, {impl.Scan{Next: 64, Told: []int{}}, true}, {impl.Scan{Next: 65, Told: []int{}}, false},
		{scan(0, 0), false}, {scan(1, 0), true}, {scan(1, 1), false}, {scan(64, 0), true}, {scan(65, 0), false}, {scan(-1, 0), false},
		{scan(20, 18), true}, {scan(20, 19), true}, {scan(20, 20), false}, {scan(20, 21), false}, {scan(20, 63), false}, {scan(20, 64), false},
		{scan(20, 5, 19), true}, {scan(20, 5, 20), false}, {scan(20, 20, 5), false}, {scan(20, 20, 21), false},
		{scan(20, 5, 5), false}, {scan(20, 19, 5), false}, {scan(20, 6, 5), false}, {scan(20, 5, 6), true}, {scan(20, 0, 1, 19), true},
		{scan(20, 0, 0, 1), false}, {scan(20, 0, 1, 1), false}, {scan(20, 1, 0, 2), false}, {scan(20, 1, 3, 2), false}, {scan(20, 1, 30, 2), false},
		{scan(20, -1), false}, {scan(20, -1, 5), false}, {scan(20, 5, -1), false}, {scan(-1, -2), false}, {scan(0, -1), false},
		{scan(63, 62), true}, {scan(63, 63), false}, {scan(64, 63), true}, {scan(64, 64), false}, {scan(65, 64), false},
		{scan(64, 0, 63), true}, {scan(64, 0, 64), false}, {scan(64, 64, 0), false}, {scan(64, all...), true}, {scan(63, all...), false}, {scan(63, all[:63]...), true}, {scan(62, all[:63]...), false},
		{scan(64, append(all, 63)...), false}, {scan(64, append([]int{0}, all...)...), false}, {scan(64, append([]int{-1}, all...)...), false},
		{scan(math.MinInt), false}, {scan(math.MaxInt), false}, {scan(math.MaxInt, 64), false}, {scan(math.MaxInt, math.MaxInt-1), false}, {scan(20, math.MinInt), false}, {scan(64, math.MaxInt), false}, {scan(20, math.MinInt, 5), false},
	} {
		if got := impl.ScanValid(x.scan); got != x.want {
			t.Errorf("ScanValid(%v) = %v", x.scan, got)
		}
	}
}

func TestScanValidAll(t *testing.T) {
	for next := range impl.Circle + 1 {
		for _, s := range scansAt(next) {
			if !impl.ScanValid(s) {
				t.Fatalf("ScanValid(%v) = false", s)
			}
		}
	}
	eachBadScan(func(s impl.Scan) {
		if impl.ScanValid(s) {
			t.Fatalf("ScanValid(%v) = true", s)
		}
	})
}

func TestScanDoneCases(t *testing.T) {
	for next := range impl.Circle + 1 {
		for _, s := range scansAt(next) {
			if got := impl.ScanDone(s); got != (next == 64) {
				t.Errorf("ScanDone(%v) = %v", s, got)
			}
		}
	}
	eachBadScan(func(s impl.Scan) {
		if impl.ScanDone(s) {
			t.Fatalf("ScanDone(%v) = true", s)
		}
	})
}

// scanCase is a call of ScanStep that succeeds.
type scanCase struct {
	name string
	list []impl.Lease
	keys []int
	scan impl.Scan
	want impl.Scan
}

func checkScanCases(t *testing.T, cases []scanCase) {
	t.Helper()
	for _, x := range cases {
		if got, ok := impl.ScanStep(x.list, x.keys, x.scan); !ok || !sameScan(got, x.want) {
			t.Errorf("%s: ScanStep(%v, %v, %v) = %v, %v, want %v", x.name, x.list, x.keys, x.scan, got, ok, x.want)
		}
	}
}

func TestScanStepRanges(t *testing.T) {
	two, keys := twoLeases(), []int{0, 19, 20, 21, 49, 50, 51, 63}
	ends := []impl.Lease{lease(0, 7, 10), lease(63, 40, 11)}
	neighbours := []impl.Lease{lease(19, 7, 10), lease(20, 40, 10), lease(21, 7, 10)}
	checkScanCases(t, []scanCase{
		{"new scan", two, keys, impl.Scan{}, scan(21, 0, 19, 20)},
		{"one above 0", two, keys, scan(1), scan(21, 19, 20)},
		{"one before the End", two, keys, scan(19), scan(21, 19, 20)},
		{"the End", two, keys, scan(20), scan(21, 20)},
		{"one behind the End", two, keys, scan(21), scan(51, 21, 49, 50)},
		{"one before the last End", two, keys, scan(49), scan(51, 49, 50)},
		{"the last End", two, keys, scan(50), scan(51, 50)},
		{"last step", two, keys, scan(51), scan(64, 51, 63)},
		{"last step, not from its beginning", two, keys, scan(52), scan(64, 63)},
		{"last step, last position", two, keys, scan(63), scan(64, 63)},
		{"End 63, new scan", ends, keys, impl.Scan{}, scan(1, 0)},
		{"End 63, last step", ends, keys, scan(1), scan(64, 19, 20, 21, 49, 50, 51, 63)},
		{"End 63, last position", ends, keys, scan(63), scan(64, 63)},
		{"End 62, new scan", []impl.Lease{lease(62, 7, 10)}, keys, impl.Scan{}, scan(63, 0, 19, 20, 21, 49, 50, 51)},
		{"End 62, last step", []impl.Lease{lease(62, 7, 10)}, keys, scan(63), scan(64, 63)},
		{"single, End 0, new scan", ends[:1], keys, impl.Scan{}, scan(1, 0)},
		{"single, End 0, last step", ends[:1], keys, scan(1), scan(64, keys[1:]...)},
		{"single, End 0, last position", ends[:1], keys, scan(63), scan(64, 63)},
		{"single, End 20, new scan", two[:1], keys, impl.Scan{}, scan(21, 0, 19, 20)},
		{"single, End 20, the End", two[:1], keys, scan(20), scan(21, 20)},
		{"single, End 20, last step", two[:1], keys, scan(21), scan(64, keys[3:]...)},
		{"single, End 63, new scan", ends[1:], keys, impl.Scan{}, scan(64, keys...)},
		{"single, End 63, last position", ends[1:], keys, scan(63), scan(64, 63)},
		{"neighbours, first", neighbours, keys, impl.Scan{}, scan(20, 0, 19)},
		{"neighbours, second", neighbours, keys, scan(20), scan(21, 20)},
		{"neighbours, third", neighbours, keys, scan(21), scan(22, 21)},
		{"neighbours, last step", neighbours, keys, scan(22), scan(64, 49, 50, 51, 63)},
	})
}

// Each step of MaxLeases leases, from the beginning of the range and from its end.
func TestScanStepMaxLeases(t *testing.T) {
	full, next := fullLeases(), 0
	for _, l := range append(full, lease(63, 7, 10)) {
		checkScanCases(t, []scanCase{
			{"from the beginning", full, allKeys(), scan(next), scan(l.End+1, allKeys()[next:l.End+1]...)},
			{"from the end", full, allKeys(), scan(l.End), scan(l.End+1, l.End)},
		})
		next = l.End + 1
	}
}

func TestScanStepKeys(t *testing.T) {
	two, all := twoLeases(), allKeys()
	checkScanCases(t, []scanCase{
		{"nil", two, nil, impl.Scan{}, scan(21)},
		{"empty", two, []int{}, scan(21, 3), scan(51, 3)},
		{"nil, last step", two, nil, scan(51, 3, 50), scan(64, 3, 50)},
		{"all, new scan", two, all, impl.Scan{}, scan(21, all[:21]...)},
		{"all", two, all, scan(21), scan(51, all[21:51]...)},
		{"all, all told", two, all, scan(21, all[:21]...), scan(51, all[:51]...)},
		{"all, last step", two, all, scan(51, all[:51]...), scan(64, all...)},
		{"0, new scan", two, []int{0}, impl.Scan{}, scan(21, 0)},
		{"0, passed before", two, []int{0}, scan(1), scan(21)},
		{"0, told before", two, []int{0}, scan(1, 0), scan(21, 0)},
		{"63, not yet", two, []int{63}, scan(21), scan(51)},
		{"63, last step", two, []int{63}, scan(51), scan(64, 63)},
		{"at Next", two, []int{25}, scan(25), scan(51, 25)},
		{"one before Next", two, []int{24}, scan(25), scan(51)},
		{"one behind Next", two, []int{26}, scan(25), scan(51, 26)},
		{"at the end of the range", two, []int{50}, scan(25), scan(51, 50)},
		{"one before the end of the range", two, []int{49}, scan(25), scan(51, 49)},
		{"one behind the end of the range", two, []int{51}, scan(25), scan(51)},
		{"around Next", two, []int{23, 24, 25, 26}, scan(25), scan(51, 25, 26)},
		{"around the end of the range", two, []int{48, 49, 50, 51, 52}, scan(25), scan(51, 48, 49, 50)},
		{"only on both sides of the range", two, []int{0, 20, 51, 63}, scan(21), scan(51)},
		{"below Next, not told", two, []int{3, 20, 30}, scan(21), scan(51, 30)},
		{"below Next, one of them told", two, []int{3, 20, 30}, scan(21, 3), scan(51, 3, 30)},
		{"told ones are no longer there", two, []int{30}, scan(21, 3, 20), scan(51, 3, 20, 30)},
		{"told ones are no longer there, and no others", two, nil, scan(21, 3, 20), scan(51, 3, 20)},
		{"other ones told", two, []int{4, 19, 30}, scan(21, 3, 20), scan(51, 3, 20, 30)},
		{"told one before Next, and Next", two, []int{24, 25}, scan(25, 24), scan(51, 24, 25)},
	})
}

// A scan looks neither at the time of a lease nor at its owner.
func TestScanStepOwners(t *testing.T) {
	for _, owner := range []int{0, 20, 50, 63} {
		for _, until := range []int{0, 1, impl.MaxTime} {
			list, same := []impl.Lease{lease(20, owner, until), lease(50, 7, 10)}, []impl.Lease{lease(20, owner, until), lease(50, owner, until)}
			checkScanCases(t, []scanCase{
				{"another owner", list, []int{3, 30, 60}, impl.Scan{}, scan(21, 3)},
				{"another owner, last step", list, []int{3, 30, 60}, scan(51, 3, 30), scan(64, 3, 30, 60)},
				{"the same owner", same, []int{3, 30, 60}, impl.Scan{}, scan(21, 3)},
				{"the same owner, second step", same, []int{3, 30, 60}, scan(21, 3), scan(51, 3, 30)},
			})
		}
	}
}

func TestScanStepModelled(t *testing.T) {
	count := 0
	eachScan(func(list []impl.Lease, keys []int, s impl.Scan) {
		count++
		want, _ := modelScanStep(list, keys, s)
		if got, ok := impl.ScanStep(list, keys, s); !ok || !sameScan(got, want) {
			t.Fatalf("ScanStep(%v, %v, %v) = %v, %v, want %v", list, keys, s, got, ok, want)
		}
	})
	succeeded(t, count)
}

func TestScanAllCases(t *testing.T) {
	two, full, keys := twoLeases(), fullLeases(), []int{3, 30, 60}
	last := append(slices.Clone(full[1:]), lease(63, 7, 10))
	for _, x := range []struct {
		name  string
		list  []impl.Lease
		keys  []int
		steps int
	}{
		{"two leases", two, keys, 3},
		{"two leases, no keys", two, nil, 3},
		{"two leases, empty keys", two, []int{}, 3},
		{"two leases, all keys", two, allKeys(), 3},
		{"two leases, key 0", two, []int{0}, 3},
		{"two leases, key 63", two, []int{63}, 3},
		{"two leases, only keys at the ends", two, []int{0, 20, 50, 63}, 3},
		{"two leases, only keys behind the ends", two, []int{21, 51}, 3},
		{"two leases, the last one to 63", []impl.Lease{lease(20, 7, 10), lease(63, 40, 11)}, keys, 2},
		{"two leases, the last one to 63, no keys", []impl.Lease{lease(20, 7, 10), lease(63, 40, 11)}, nil, 2},
		{"two leases, 0 and 63", []impl.Lease{lease(0, 7, 10), lease(63, 40, 11)}, allKeys(), 2},
		{"two leases, 62 and 63", []impl.Lease{lease(62, 7, 10), lease(63, 40, 11)}, allKeys(), 2},
		{"two leases, 0 and 1", []impl.Lease{lease(0, 7, 10), lease(1, 40, 11)}, allKeys(), 3},
		{"two leases, 61 and 62", []impl.Lease{lease(61, 7, 10), lease(62, 40, 11)}, allKeys(), 3},
		{"one lease", two[:1], keys, 2},
		{"one lease to 0", []impl.Lease{lease(0, 7, 10)}, allKeys(), 2},
		{"one lease to 0, no keys", []impl.Lease{lease(0, 7, 10)}, nil, 2},
		{"one lease to 62", []impl.Lease{lease(62, 7, 10)}, allKeys(), 2},
		{"one lease to 63", []impl.Lease{lease(63, 7, 10)}, allKeys(), 1},
		{"one lease to 63, no keys", []impl.Lease{lease(63, 7, 10)}, nil, 1},
		{"MaxLeases leases", full, allKeys(), 13},
		{"MaxLeases leases, no keys", full, nil, 13},
		{"MaxLeases leases, the last one to 63", last, allKeys(), 12},
		{"MaxLeases leases, the last one to 63, no keys", last, nil, 12},
		{"expired leases of one owner", []impl.Lease{lease(20, 0, 0), lease(50, 0, 0)}, keys, 3},
	} {
		if got, steps := impl.ScanAll(x.list, x.keys); !slices.Equal(got, x.keys) || steps != x.steps {
			t.Errorf("%s: ScanAll(%v, %v) = %v, %d, want %d steps", x.name, x.list, x.keys, got, steps, x.steps)
		}
	}
}

// A complete scan is returned as it is, whatever the leases and the keys are.
func TestScanStepComplete(t *testing.T) {
	for _, s := range scansAt(64) {
		for _, list := range goodLeases() {
			for _, keys := range append(goodKeys(), s.Told) {
				if got, ok := impl.ScanStep(list, keys, s); ok || !sameScan(got, s) {
					t.Errorf("ScanStep(%v, %v, %v) = %v, %v, want it unchanged and false", list, keys, s, got, ok)
				}
			}
		}
	}
}

func checkNoScanStep(t *testing.T, list []impl.Lease, keys []int, s impl.Scan) {
	t.Helper()
	if got, ok := impl.ScanStep(list, keys, s); ok || !sameScan(got, impl.Scan{}) {
		t.Fatalf("ScanStep(%v, %v, %v) = %v, %v, want the zero value and false", list, keys, s, got, ok)
	}
}

func checkNoScanAll(t *testing.T, list []impl.Lease, keys []int) {
	t.Helper()
	if got, steps := impl.ScanAll(list, keys); len(got) != 0 || steps != -1 {
		t.Fatalf("ScanAll(%v, %v) = %v, %d, want none and -1", list, keys, got, steps)
	}
}

// Invalid arguments are checked first, so also with scans that are complete, and with other arguments that are invalid.
func TestScanBadLeases(t *testing.T) {
	eachBadLeases(func(_ string, list []impl.Lease) {
		for _, keys := range goodKeys() {
			checkNoScanAll(t, list, keys)
			for _, s := range append(goodScans(), scan(-1), scan(65), scan(20, 20), scan(64, 64)) {
				checkNoScanStep(t, list, keys, s)
			}
		}
		eachBadKeys(func(_ string, keys []int) {
			checkNoScanAll(t, list, keys)
			checkNoScanStep(t, list, keys, impl.Scan{})
			checkNoScanStep(t, list, keys, scan(64, 3))
			checkNoScanStep(t, list, keys, scan(65))
		})
	})
}

func TestScanBadKeys(t *testing.T) {
	for _, list := range goodLeases() {
		eachBadKeys(func(_ string, keys []int) {
			checkNoScanAll(t, list, keys)
			for _, s := range append(goodScans(), scan(-1), scan(65), scan(20, 20), scan(64, 64)) {
				checkNoScanStep(t, list, keys, s)
			}
		})
	}
}

func TestScanBadScans(t *testing.T) {
	for _, list := range goodLeases() {
		for _, keys := range goodKeys() {
			eachBadScan(func(s impl.Scan) { checkNoScanStep(t, list, keys, s) })
		}
	}
}
