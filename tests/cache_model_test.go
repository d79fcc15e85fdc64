package tests

import (
	"slices"
	"testing"

	"loop.example/ringoverlay/impl"
)

func entry(key, value, time int) impl.Entry {
	return impl.Entry{Key: key, Value: value, Time: time}
}

// entries gives each key a time and a value; the times start again when they are used up, and the values differ.
func entries(keys, times []int) []impl.Entry {
	list := []impl.Entry{}
	for i, key := range keys {
		list = append(list, entry(key, []int{99, 0, 42, 7, 98, 1}[i%6], times[i%len(times)]))
	}
	return list
}

// cacheKeys returns keys of caches of all sizes: neighbouring and spread ones, with and without 0 and the highest position.
func cacheKeys() [][]int {
	return [][]int{{}, {0}, {30}, {63}, {0, 63}, {30, 31}, {5, 20, 35}, {0, 1, 62, 63}, {0, 1, 2, 31, 63}, {1, 10, 11, 12, 62}, fullKeys(), {0, 1, 2, 3, 4, 5}, {58, 59, 60, 61, 62, 63}, {0, 12, 13, 30, 62, 63}}
}

// fullKeys has MaxEntries keys, with free ones below, between and above them.
func fullKeys() []int {
	return []int{5, 15, 25, 26, 45, 55}
}

// cacheTimes returns times of entries that expire together or one after the other, also at both ends of the range.
func cacheTimes() [][]int {
	return [][]int{{20}, {20, 21}, {21, 20}, {0}, {999}, {0, 999}, {10, 11, 9}, {30, 20, 10, 11, 31, 19}, {20, 20, 10, 10, 10, 31}, {989, 999, 990, 988}, {0, 1, 10, 11}}
}

// caches returns caches with these keys and times.
func caches() [][]impl.Entry {
	lists := [][]impl.Entry{}
	for _, keys := range cacheKeys() {
		for _, times := range cacheTimes() {
			lists = append(lists, entries(keys, times))
		}
	}
	return lists
}

// eachOrder calls check with all orders of six different times, and with all choices from three times.
func eachOrder(check func(times []int)) {
	var extend func(times, from []int, again bool)
	extend = func(times, from []int, again bool) {
		if len(times) == impl.MaxEntries {
			check(times)
			return
		}
		for _, time := range from {
			if again || !slices.Contains(times, time) {
				extend(append(slices.Clone(times), time), from, again)
			}
		}
	}
	extend(nil, []int{10, 11, 15, 20, 21, 30}, false)
	extend(nil, []int{10, 20, 21}, true)
}

// eachFull calls check with full caches of which each entry is the oldest one in turn, alone or as one of several.
func eachFull(check func(list []impl.Entry)) {
	for _, keys := range [][]int{fullKeys(), {0, 1, 31, 32, 62, 63}} {
		eachOrder(func(times []int) { check(entries(keys, times)) })
	}
}

// nearKeys returns the keys of a cache, their neighbours, and the ends of the circle.
func nearKeys(list []impl.Entry) []int {
	keys := []int{0, impl.Circle / 2, impl.Circle - 1}
	for _, e := range list {
		keys = append(keys, e.Key, up(e.Key), down(e.Key))
	}
	slices.Sort(keys)
	return slices.Compact(keys)
}

// nearTimes returns the times at which the use of an entry begins and ends, and those next to them and at both ends of the range.
func nearTimes(list []impl.Entry) []int {
	times := []int{0, 1, impl.MaxTime - 1, impl.MaxTime}
	for _, e := range list {
		for _, time := range []int{e.Time - 1, e.Time, e.Time + 1, e.Time + 9, e.Time + 10, e.Time + 11} {
			if time >= 0 && time <= impl.MaxTime {
				times = append(times, time)
			}
		}
	}
	slices.Sort(times)
	return slices.Compact(times)
}

// eachGet calls check with caches, the keys near to theirs, and the times near to theirs.
func eachGet(check func(list []impl.Entry, key, now int)) {
	for _, list := range caches() {
		for _, now := range nearTimes(list) {
			for _, key := range nearKeys(list) {
				check(list, key, now)
			}
		}
	}
}

// eachStore calls check with the same arguments and a value, and with a new entry for full caches.
func eachStore(check func(list []impl.Entry, key, value, now int)) {
	eachGet(func(list []impl.Entry, key, now int) { check(list, key, (key*7+now)%100, now) })
	eachFull(func(list []impl.Entry) {
		for i, key := range nearKeys(list) {
			check(list, key, 50, []int{9, 10, 20, 31}[i%4])
		}
	})
}

// eachDrop calls check with caches and all keys.
func eachDrop(check func(list []impl.Entry, key int)) {
	for _, list := range caches() {
		for key := range impl.Circle {
			check(list, key)
		}
	}
}

// eachSweep calls check with caches and the times near to theirs.
func eachSweep(check func(list []impl.Entry, now int)) {
	for _, list := range caches() {
		for _, now := range nearTimes(list) {
			check(list, now)
		}
	}
	eachFull(func(list []impl.Entry) {
		for _, now := range []int{10, 15, 20, 21, 25, 31} {
			check(list, now)
		}
	})
}

// modelUsed waits from the time of an entry on, and reports whether now comes in time.
func modelUsed(e impl.Entry, now int) bool {
	for later := range 11 {
		if e.Time+later == now {
			return true
		}
	}
	return false
}

func modelGet(list []impl.Entry, key, now int) (int, bool) {
	for _, e := range list {
		if e.Key == key && modelUsed(e, now) {
			return e.Value, true
		}
	}
	return 0, false
}

func hasKey(list []impl.Entry, key int) bool {
	return slices.ContainsFunc(list, func(e impl.Entry) bool { return e.Key == key })
}

// modelOldest goes through the times until an entry has it. The entries are ascending, so that it is the one with the smallest key.
func modelOldest(list []impl.Entry) impl.Entry {
	for time := range 1000 {
		for _, e := range list {
			if e.Time == time {
				return e
			}
		}
	}
	return entry(-1, -1, -1)
}

// modelWithout takes the other entries, and reports whether one is missing.
func modelWithout(list []impl.Entry, key int) ([]impl.Entry, bool) {
	result := []impl.Entry{}
	for _, e := range list {
		if e.Key != key {
			result = append(result, e)
		}
	}
	return result, len(result) < len(list)
}

// modelStore goes along the circle and takes the new entry and those that stay.
func modelStore(list []impl.Entry, key, value, now int) []impl.Entry {
	stay, there := modelWithout(list, key)
	if !there && len(list) == 6 {
		stay, _ = modelWithout(list, modelOldest(list).Key)
	}
	result := []impl.Entry{}
	for k := range 64 {
		if k == key {
			result = append(result, entry(key, value, now))
		}
		for _, e := range stay {
			if e.Key == k {
				result = append(result, e)
			}
		}
	}
	return result
}

func modelSweep(list []impl.Entry, now int) []impl.Entry {
	result := []impl.Entry{}
	for _, e := range list {
		if modelUsed(e, now) {
			result = append(result, e)
		}
	}
	return result
}

// cachePut requires that CachePut succeeds.
func cachePut(t *testing.T, list []impl.Entry, key, value, now int) []impl.Entry {
	t.Helper()
	got, ok := impl.CachePut(list, key, value, now)
	if !ok {
		t.Fatalf("CachePut(%v, %d, %d, %d) fails", list, key, value, now)
	}
	return got
}
