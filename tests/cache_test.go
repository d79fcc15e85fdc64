package tests

import (
	"math"
	"slices"
	"testing"

	"loop.example/ringoverlay/impl"
)

// threeEntries has free keys below, between and above its own ones.
func threeEntries() []impl.Entry {
	return []impl.Entry{entry(5, 50, 20), entry(20, 0, 12), entry(35, 99, 30)}
}

// fullCache has entries with these times; the keys are 10, 20, 30, 31, 40 and 50.
func fullCache(times ...int) []impl.Entry {
	return entries([]int{10, 20, 30, 31, 40, 50}, times)
}

// goodCaches are caches that are used with other arguments that are invalid.
func goodCaches() [][]impl.Entry {
	return [][]impl.Entry{nil, {}, {entry(20, 7, 10)}, {entry(0, 0, 0)}, {entry(63, 99, 999)}, threeEntries(), fullCache(20)[:5], fullCache(20), fullCache(30, 12, 11)}
}

// badCaches returns lists that are not caches, by what is wrong with them.
func badCaches() map[string][]impl.Entry {
	seven := []int{1, 10, 20, 30, 40, 50, 60}
	return map[string][]impl.Entry{
		"too long":           entries(seven, []int{20}),
		"too long, one old":  entries(seven, []int{20, 20, 0}),
		"much too long":      entries(make([]int, 1000), []int{20}),
		"all positions":      entries(allKeys(), []int{20}),
		"repeated":           {entry(20, 7, 10), entry(20, 7, 10)},
		"repeated later":     {entry(20, 7, 10), entry(50, 7, 10), entry(20, 7, 10)},
		"other repeated":     {entry(20, 7, 10), entry(20, 8, 11)},
		"first repeated":     {entry(0, 7, 10), entry(0, 7, 10), entry(50, 7, 10)},
		"last repeated":      {entry(20, 7, 10), entry(50, 7, 10), entry(50, 7, 10)},
		"descending":         {entry(50, 7, 10), entry(20, 7, 10)},
		"first descends":     {entry(21, 7, 10), entry(20, 7, 10), entry(50, 7, 10)},
		"last descends":      {entry(20, 7, 10), entry(50, 7, 10), entry(49, 7, 10)},
		"full, last repeats": entries([]int{10, 20, 30, 40, 50, 50}, []int{20}),
		"full, last is 0":    entries([]int{10, 20, 30, 40, 50, 0}, []int{20}),
		"full, first":        entries([]int{63, 20, 30, 40, 50, 60}, []int{20}),
		"-1 first":           {entry(-1, 7, 10), entry(0, 7, 10)},
		"zero twice":         make([]impl.Entry, 2),
		"extreme":            {entry(math.MinInt, math.MinInt, math.MinInt), entry(math.MaxInt, math.MaxInt, math.MaxInt)},
	}
}

func allKeys() []int {
	keys := []int{}
	for key := range impl.Circle {
		keys = append(keys, key)
	}
	return keys
}

// eachBadCache calls check with these lists and with lists in which one number of one entry is out of range.
func eachBadCache(check func(name string, list []impl.Entry)) {
	for name, list := range badCaches() {
		check(name, list)
	}
	for _, good := range goodCaches() {
		for i, e := range good {
			changed := func(name string, e impl.Entry) {
				check(name, slices.Replace(slices.Clone(good), i, i+1, e))
			}
			for _, key := range notPositions {
				changed("Key", entry(key, e.Value, e.Time))
			}
			for _, value := range notValues {
				changed("Value", entry(e.Key, value, e.Time))
			}
			for _, time := range notTimes {
				changed("Time", entry(e.Key, e.Value, time))
			}
		}
	}
}

func TestCacheValidCases(t *testing.T) {
	for _, list := range slices.Concat(caches(), goodCaches()) {
		if !impl.CacheValid(list) {
			t.Errorf("CacheValid(%v) does not hold", list)
		}
	}
	eachBadCache(func(name string, list []impl.Entry) {
		if impl.CacheValid(list) {
			t.Errorf("%s: CacheValid(%v) holds", name, list)
		}
	})
}

func TestCacheGetCases(t *testing.T) {
	for _, x := range []struct {
		name     string
		list     []impl.Entry
		key, now int
		value    int
		ok       bool
	}{
		{"no entry", nil, 5, 20, 0, false},
		{"no entry, key 0 at time 0", []impl.Entry{}, 0, 0, 0, false},
		{"at its own time", threeEntries(), 5, 20, 50, true},
		{"one later", threeEntries(), 5, 21, 50, true},
		{"one before Life later", threeEntries(), 5, 29, 50, true},
		{"Life later", threeEntries(), 5, 30, 50, true},
		{"Life+1 later", threeEntries(), 5, 31, 0, false},
		{"much later", threeEntries(), 5, 999, 0, false},
		{"one earlier", threeEntries(), 5, 19, 0, false},
		{"much earlier", threeEntries(), 5, 0, 0, false},
		{"Life earlier", threeEntries(), 5, 10, 0, false},
		{"a value of 0", threeEntries(), 20, 22, 0, true},
		{"in between, too old", threeEntries(), 20, 23, 0, false},
		{"the last one", threeEntries(), 35, 40, 99, true},
		{"the last one, too old", threeEntries(), 35, 41, 0, false},
		{"the last one, too early", threeEntries(), 35, 29, 0, false},
		{"a key below all", threeEntries(), 4, 20, 0, false},
		{"a key between two", threeEntries(), 21, 20, 0, false},
		{"a key above all", threeEntries(), 36, 30, 0, false},
		{"time 0", []impl.Entry{entry(0, 1, 0)}, 0, 0, 1, true},
		{"Life after time 0", []impl.Entry{entry(0, 1, 0)}, 0, 10, 1, true},
		{"Life+1 after time 0", []impl.Entry{entry(0, 1, 0)}, 0, 11, 0, false},
		{"one before time 1", []impl.Entry{entry(0, 1, 1)}, 0, 0, 0, false},
		{"MaxTime", []impl.Entry{entry(63, 1, 999)}, 63, 999, 1, true},
		{"one before MaxTime", []impl.Entry{entry(63, 1, 999)}, 63, 998, 0, false},
		{"Life before MaxTime", []impl.Entry{entry(63, 1, 989)}, 63, 999, 1, true},
		{"Life+1 before MaxTime", []impl.Entry{entry(63, 1, 988)}, 63, 999, 0, false},
		{"the first one of a full cache", fullCache(20), 10, 20, 99, true},
		{"the last one of a full cache", fullCache(20), 50, 20, 1, true},
	} {
		if value, ok := impl.CacheGet(x.list, x.key, x.now); value != x.value || ok != x.ok {
			t.Errorf("%s: CacheGet(%v, %d, %d) = %d, %v, want %d, %v", x.name, x.list, x.key, x.now, value, ok, x.value, x.ok)
		}
	}
}

// storeCase is a value that is stored with key and time now, after which the entry of the key removed is not there; -1 stands for no key.
type storeCase struct {
	name          string
	list          []impl.Entry
	key, now      int
	place, remove int // where the new entry is, and the key that is not there any more
}

func checkStores(t *testing.T, cases []storeCase) {
	t.Helper()
	for _, x := range cases {
		stay := slices.DeleteFunc(slices.Clone(x.list), func(e impl.Entry) bool { return e.Key == x.remove || e.Key == x.key })
		want := slices.Insert(stay, x.place, entry(x.key, 77, x.now))
		if got, ok := impl.CachePut(x.list, x.key, 77, x.now); !ok || !slices.Equal(got, want) {
			t.Errorf("%s: CachePut(%v, %d, 77, %d) = %v, %v, want %v", x.name, x.list, x.key, x.now, got, ok, want)
		}
	}
}

func TestCachePutCases(t *testing.T) {
	checkStores(t, []storeCase{
		{"no entry", nil, 30, 20, 0, -1},
		{"no entry, key 0 at time 0", nil, 0, 0, 0, -1},
		{"no entry, the last key at the last time", nil, 63, 999, 0, -1},
		{"below all", threeEntries(), 4, 20, 0, -1},
		{"key 0", threeEntries(), 0, 20, 0, -1},
		{"between two", threeEntries(), 6, 20, 1, -1},
		{"between the last two", threeEntries(), 34, 20, 2, -1},
		{"above all", threeEntries(), 36, 20, 3, -1},
		{"the last key", threeEntries(), 63, 20, 3, -1},
		{"although all others are too old", threeEntries(), 6, 999, 1, -1},
		{"before all others were read", threeEntries(), 6, 0, 1, -1},
		{"the sixth one", fullCache(20)[:5], 63, 20, 5, -1},
		{"the sixth one, between two", fullCache(20)[:5], 32, 999, 4, -1},
		{"the first key that is there", threeEntries(), 5, 22, 0, -1},
		{"a key that is there", threeEntries(), 20, 22, 1, -1},
		{"the last key that is there", threeEntries(), 35, 31, 2, -1},
		{"a key whose entry is too old", threeEntries(), 20, 23, 1, -1},
		{"a key whose entry was read later", threeEntries(), 20, 11, 1, -1},
		{"the key of the only entry", []impl.Entry{entry(9, 1, 20)}, 9, 20, 0, -1},
		{"full, the key of the oldest", fullCache(21, 20, 22), 20, 23, 1, -1},
		{"full, a key of another one", fullCache(21, 20, 22), 30, 23, 2, -1},
		{"full, the first key", fullCache(21, 20, 22), 10, 23, 0, -1},
		{"full, the last key", fullCache(21, 20, 22), 50, 23, 5, -1},
		{"full, a key whose entry is too old", fullCache(21, 20, 22), 40, 31, 4, -1},
		{"full, a key whose entry was read later", fullCache(21, 20, 22), 40, 19, 4, -1},
		{"full and all too old, a key that is there", fullCache(20), 31, 900, 3, -1},
	})
}

func TestCachePutRemoves(t *testing.T) {
	checkStores(t, []storeCase{
		{"the first one", fullCache(20, 21, 22, 23, 24, 25), 35, 26, 3, 10},
		{"the second one", fullCache(21, 20, 22, 23, 24, 25), 35, 26, 3, 20},
		{"one in the middle", fullCache(25, 24, 23, 20, 21, 22), 60, 26, 5, 31},
		{"the last one", fullCache(25, 24, 23, 22, 21, 20), 35, 26, 4, 50},
		{"the last one, for a key above it", fullCache(25, 24, 23, 22, 21, 20), 51, 26, 5, 50},
		{"the last one, for a key below it", fullCache(25, 24, 23, 22, 21, 20), 49, 26, 5, 50},
		{"the last one, for the first key", fullCache(25, 24, 23, 22, 21, 20), 0, 26, 0, 50},
		{"the first one, for a key below it", fullCache(20, 21, 22, 23, 24, 25), 9, 26, 0, 10},
		{"the first one, for a key above it", fullCache(20, 21, 22, 23, 24, 25), 11, 26, 0, 10},
		{"the first one, for the last key", fullCache(20, 21, 22, 23, 24, 25), 63, 26, 5, 10},
		{"the one below the new one", fullCache(25, 24, 23, 20, 22, 21), 32, 26, 3, 31},
		{"the one above the new one", fullCache(25, 24, 22, 23, 20, 21), 39, 26, 4, 40},
		{"of all the one with the smallest key", fullCache(20), 35, 26, 3, 10},
		{"of all the one with the smallest key, for a key below it", fullCache(20), 3, 20, 0, 10},
		{"of the last two the first one", fullCache(25, 25, 25, 25, 20, 20), 35, 26, 4, 40},
		{"of two that are far apart the first one", fullCache(25, 20, 25, 25, 25, 20), 35, 26, 3, 20},
		{"of three the first one", fullCache(25, 25, 20, 20, 21, 20), 60, 26, 5, 30},
		{"of all but the first one the first one", fullCache(21, 20, 20, 20, 20, 20), 60, 26, 5, 20},
		{"of all but the last one the first one", fullCache(20, 20, 20, 20, 20, 21), 60, 26, 5, 10},
		{"also if the new one is older than all", fullCache(25, 24, 23, 20, 21, 22), 60, 0, 5, 31},
		{"also if the new one has its time", fullCache(25, 24, 23, 20, 21, 22), 60, 20, 5, 31},
		{"also if the new one has its time and a smaller key", fullCache(25, 24, 23, 20, 21, 22), 1, 20, 0, 31},
		{"also if another one is nearer to the new one", fullCache(20, 25, 25, 25, 25, 25), 32, 21, 3, 10},
		{"also if several are too old", fullCache(3, 2, 1, 900, 900, 900), 60, 900, 5, 30},
		{"also if another one was read later than now", fullCache(21, 999, 20, 22, 999, 23), 60, 25, 5, 30},
		{"also if all were read later than now", fullCache(999, 998), 60, 25, 5, 20},
		{"time 0", fullCache(1, 1, 1, 0, 1, 1), 60, 0, 5, 31},
		{"time MaxTime", fullCache(999), 60, 999, 5, 10},
	})
}

// entriesOf returns the entries of these keys.
func entriesOf(list []impl.Entry, keys []int) []impl.Entry {
	return slices.DeleteFunc(slices.Clone(list), func(e impl.Entry) bool { return !slices.Contains(keys, e.Key) })
}

func TestCacheDropCases(t *testing.T) {
	for _, x := range []struct {
		name string
		list []impl.Entry
		key  int
		left []int
		ok   bool
	}{
		{"no entry", nil, 5, nil, false},
		{"no entry, key 0", []impl.Entry{}, 0, nil, false},
		{"the only one", []impl.Entry{entry(9, 1, 20)}, 9, nil, true},
		{"not the only one", []impl.Entry{entry(9, 1, 20)}, 10, []int{9}, false},
		{"key 0", []impl.Entry{entry(0, 0, 0)}, 0, nil, true},
		{"the first one", threeEntries(), 5, []int{20, 35}, true},
		{"in between", threeEntries(), 20, []int{5, 35}, true},
		{"the last one", threeEntries(), 35, []int{5, 20}, true},
		{"below all", threeEntries(), 4, []int{5, 20, 35}, false},
		{"between two", threeEntries(), 34, []int{5, 20, 35}, false},
		{"above all", threeEntries(), 36, []int{5, 20, 35}, false},
		{"the first one of a full cache", fullCache(20), 10, []int{20, 30, 31, 40, 50}, true},
		{"one of a full cache", fullCache(20), 31, []int{10, 20, 30, 40, 50}, true},
		{"the last one of a full cache", fullCache(20), 50, []int{10, 20, 30, 31, 40}, true},
		{"none of a full cache", fullCache(20), 32, []int{10, 20, 30, 31, 40, 50}, false},
	} {
		want := entriesOf(x.list, x.left)
		if got, ok := impl.CacheDrop(x.list, x.key); !slices.Equal(got, want) || ok != x.ok || len(got) != len(x.left) {
			t.Errorf("%s: CacheDrop(%v, %d) = %v, %v, want %v, %v", x.name, x.list, x.key, got, ok, want, x.ok)
		}
	}
}

func TestCacheSweepCases(t *testing.T) {
	for _, x := range []struct {
		name string
		list []impl.Entry
		now  int
		left []int
	}{
		{"no entry", nil, 20, nil},
		{"no entry at time 0", []impl.Entry{}, 0, nil},
		{"one too old", threeEntries(), 30, []int{5, 35}},
		{"all but one too old", threeEntries(), 31, []int{35}},
		{"all but one too old, and it is used for the last time", threeEntries(), 40, []int{35}},
		{"all too old", threeEntries(), 41, nil},
		{"one read later", threeEntries(), 22, []int{5, 20}},
		{"two read later", threeEntries(), 19, []int{20}},
		{"one used for the first time", threeEntries(), 12, []int{20}},
		{"all read later", threeEntries(), 11, nil},
		{"full, all used at their time", fullCache(20), 20, []int{10, 20, 30, 31, 40, 50}},
		{"full, all used Life later", fullCache(20), 30, []int{10, 20, 30, 31, 40, 50}},
		{"full, all read one later", fullCache(20), 19, nil},
		{"full, all Life+1 old", fullCache(20), 31, nil},
		{"full, all used, with different times", fullCache(25, 20, 30, 24, 21, 29), 30, []int{10, 20, 30, 31, 40, 50}},
		{"full, the first and the last one too old", fullCache(20, 21, 22, 23, 24, 20), 31, []int{20, 30, 31, 40}},
		{"full, the first and the last one read later", fullCache(32, 21, 22, 23, 24, 32), 31, []int{20, 30, 31, 40}},
		{"full, old ones and later ones in turn", fullCache(0, 99, 31, 0, 99, 41), 41, []int{30, 50}},
		{"at time 0", fullCache(0, 1), 0, []int{10, 30, 40}},
		{"at MaxTime", fullCache(988, 989, 999), 999, []int{20, 30, 40, 50}},
	} {
		want := entriesOf(x.list, x.left)
		if got := impl.CacheSweep(x.list, x.now); !slices.Equal(got, want) || len(got) != len(x.left) {
			t.Errorf("%s: CacheSweep(%v, %d) = %v, want %v", x.name, x.list, x.now, got, want)
		}
	}
}

// The answers are compared with those of a model that waits, and goes along the circle.
func TestCachesModelled(t *testing.T) {
	eachGet(func(list []impl.Entry, key, now int) {
		want, wantOk := modelGet(list, key, now)
		if value, ok := impl.CacheGet(list, key, now); value != want || ok != wantOk {
			t.Fatalf("CacheGet(%v, %d, %d) = %d, %v, want %d, %v", list, key, now, value, ok, want, wantOk)
		}
	})
	eachStore(func(list []impl.Entry, key, value, now int) {
		want := modelStore(list, key, value, now)
		if got, ok := impl.CachePut(list, key, value, now); !ok || !slices.Equal(got, want) {
			t.Fatalf("CachePut(%v, %d, %d, %d) = %v, %v, want %v", list, key, value, now, got, ok, want)
		}
	})
	eachDrop(func(list []impl.Entry, key int) {
		want, wantOk := modelWithout(list, key)
		if got, ok := impl.CacheDrop(list, key); !slices.Equal(got, want) || ok != wantOk {
			t.Fatalf("CacheDrop(%v, %d) = %v, %v, want %v, %v", list, key, got, ok, want, wantOk)
		}
	})
	eachSweep(func(list []impl.Entry, now int) {
		if got, want := impl.CacheSweep(list, now), modelSweep(list, now); !slices.Equal(got, want) {
			t.Fatalf("CacheSweep(%v, %d) = %v, want %v", list, now, got, want)
		}
	})
}

// All keys, values and times are stored and read again.
func TestCacheRanges(t *testing.T) {
	for _, list := range [][]impl.Entry{nil, threeEntries(), fullCache(20)} {
		for key := range impl.Circle {
			for value := range impl.MaxValue + 1 {
				for _, now := range []int{0, 20, impl.MaxTime} {
					checkStored(t, list, key, value, now)
				}
			}
			for now := range impl.MaxTime + 1 {
				checkStored(t, list, key, 0, now)
			}
		}
	}
}

func checkStored(t *testing.T, list []impl.Entry, key, value, now int) {
	t.Helper()
	got := cachePut(t, list, key, value, now)
	if read, ok := impl.CacheGet(got, key, now); !ok || read != value || !slices.Contains(got, entry(key, value, now)) {
		t.Fatalf("CachePut(%v, %d, %d, %d) = %v, where CacheGet returns %d, %v", list, key, value, now, got, read, ok)
	}
}

// In a long history values are stored, read, removed and swept at times that mostly increase. After each step the cache is that of the model.
func TestCacheHistory(t *testing.T) {
	for seed := range 200 {
		random, now := spread(seed), 0
		list, model := []impl.Entry{}, []impl.Entry{}
		for range 500 {
			now = min(max(now+random.below(5)-1, 0), impl.MaxTime)
			key, value := []int{0, 1, 7, 8, 20, 21, 40, 62, 63}[random.below(9)], random.below(100)
			switch random.below(8) {
			case 0:
				list, _ = impl.CacheDrop(list, key)
				model, _ = modelWithout(model, key)
			case 1:
				list, model = impl.CacheSweep(list, now), modelSweep(model, now)
			default:
				list, model = cachePut(t, list, key, value, now), modelStore(model, key, value, now)
			}
			if !impl.CacheValid(list) || !slices.Equal(list, model) {
				t.Fatalf("seed %d: at time %d the cache is %v, want %v", seed, now, list, model)
			}
			for key := range impl.Circle {
				want, wantOk := modelGet(model, key, now)
				if got, ok := impl.CacheGet(list, key, now); got != want || ok != wantOk {
					t.Fatalf("seed %d: CacheGet(%v, %d, %d) = %d, %v, want %d, %v", seed, list, key, now, got, ok, want, wantOk)
				}
			}
		}
	}
}

func checkNoGet(t *testing.T, list []impl.Entry, key, now int) {
	t.Helper()
	if value, ok := impl.CacheGet(list, key, now); ok || value != 0 {
		t.Errorf("CacheGet(%v, %d, %d) = %d, %v, want none", list, key, now, value, ok)
	}
}

func checkNoStore(t *testing.T, list []impl.Entry, key, value, now int) {
	t.Helper()
	if got, ok := impl.CachePut(list, key, value, now); ok || len(got) != 0 {
		t.Errorf("CachePut(%v, %d, %d, %d) = %v, %v, want none", list, key, value, now, got, ok)
	}
}

func checkNoDrop(t *testing.T, list []impl.Entry, key int) {
	t.Helper()
	if got, ok := impl.CacheDrop(list, key); ok || len(got) != 0 {
		t.Errorf("CacheDrop(%v, %d) = %v, %v, want none", list, key, got, ok)
	}
}

func checkNoSweep(t *testing.T, list []impl.Entry, now int) {
	t.Helper()
	if got := impl.CacheSweep(list, now); len(got) != 0 {
		t.Errorf("CacheSweep(%v, %d) = %v, want none", list, now, got)
	}
}

// Keys that are there and keys that are not give nothing if the list is not a cache.
func TestNoCache(t *testing.T) {
	eachBadCache(func(_ string, list []impl.Entry) {
		keys := []int{0, 20, 25, 50, 63, -1, impl.Circle}
		for _, e := range list[:min(len(list), 8)] {
			keys = append(keys, e.Key)
		}
		for _, now := range []int{0, 10, 20, 30, 999, -1, 1000} {
			for _, key := range keys {
				checkNoGet(t, list, key, now)
				checkNoStore(t, list, key, 7, now)
				checkNoDrop(t, list, key)
			}
			checkNoSweep(t, list, now)
		}
		for _, e := range list[:min(len(list), 8)] {
			checkNoGet(t, list, e.Key, e.Time)
			checkNoStore(t, list, e.Key, e.Value, e.Time)
			checkNoSweep(t, list, e.Time)
		}
	})
}

// The list is a cache, but another argument is out of range.
func TestCacheOutOfRange(t *testing.T) {
	for _, list := range slices.Concat(goodCaches(), caches()) {
		for _, key := range notPositions {
			checkNoDrop(t, list, key)
			for _, now := range []int{0, 20, 30, 999} {
				checkNoGet(t, list, key, now)
				checkNoStore(t, list, key, 7, now)
			}
		}
		for _, time := range notTimes {
			checkNoSweep(t, list, time)
			for _, key := range nearKeys(list) {
				checkNoGet(t, list, key, time)
				checkNoStore(t, list, key, 7, time)
			}
		}
		for _, value := range notValues {
			for _, key := range nearKeys(list) {
				checkNoStore(t, list, key, value, 20)
			}
		}
	}
}
