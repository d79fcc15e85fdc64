package tests

import (
	"testing"

	"loop.example/ringoverlay/impl"
)

// cacheCall is a call of a function of chapter 23 that returns a cache, with all arguments but the cache.
type cacheCall struct {
	name string
	do   func(list []impl.Entry) []impl.Entry
}

// cacheCalls returns calls that succeed, that fail, and that change nothing.
func cacheCalls() []cacheCall {
	calls := []cacheCall{}
	for _, now := range []int{0, 19, 20, 25, 30, 31, 999, 1000, -1} {
		calls = append(calls, cacheCall{"CacheSweep", func(list []impl.Entry) []impl.Entry { return impl.CacheSweep(list, now) }})
		for _, key := range []int{0, 5, 10, 11, 20, 50, 63, impl.Circle} {
			calls = append(calls, cacheCall{"CachePut", func(list []impl.Entry) []impl.Entry {
				got, _ := impl.CachePut(list, key, 7, now)
				return got
			}})
		}
	}
	for _, key := range []int{-1, 0, 5, 10, 11, 20, 50, 63, impl.Circle} {
		calls = append(calls, cacheCall{"CacheDrop", func(list []impl.Entry) []impl.Entry {
			got, _ := impl.CacheDrop(list, key)
			return got
		}})
	}
	return calls
}

// memoryCaches has caches of all sizes, and lists that are not caches.
func memoryCaches() [][]impl.Entry {
	return [][]impl.Entry{nil, {}, {entry(20, 7, 20)}, {entry(0, 0, 0), entry(63, 99, 999)}, threeEntries(), fullCache(20)[:5], fullCache(20), fullCache(21, 20, 0, 999),
		{entry(20, 7, 20), entry(20, 7, 20)}, {entry(50, 7, 20), entry(20, 7, 20)}, {entry(20, 7, -1)}, entries([]int{0, 1, 2, 3, 4, 5, 6}, []int{20})}
}

// spareEntry is in none of the lists.
var spareEntry = entry(-99, -99, -99)

func TestCachesMemory(t *testing.T) {
	for _, list := range memoryCaches() {
		for _, call := range cacheCalls() {
			checkMemory(t, call.name, list, spareEntry, call.do)
		}
	}
}

// The empty caches are results too: those of invalid arguments, those without a removed entry, and those of which all entries are swept.
func TestCachesEmptyMemory(t *testing.T) {
	count := 0
	for _, list := range memoryCaches() {
		for _, call := range cacheCalls() {
			if len(call.do(list)) == 0 {
				checkEmptyMemory(t, call.name, list, entry(1, 1, 1), entry(2, 2, 2), call.do)
				count++
			}
		}
	}
	if count < 100 {
		t.Errorf("only %d results are empty", count)
	}
}

func TestCachesUnmodified(t *testing.T) {
	for _, list := range memoryCaches() {
		for _, call := range cacheCalls() {
			checkUnmodified(t, call.name, list, spareEntry, func(list []impl.Entry) { call.do(list) })
		}
		checkUnmodified(t, "CacheValid", list, spareEntry, func(list []impl.Entry) { impl.CacheValid(list) })
		for _, key := range []int{-1, 0, 5, 20, 50, 63} {
			for _, now := range []int{-1, 0, 20, 30, 31, 999} {
				checkUnmodified(t, "CacheGet", list, spareEntry, func(list []impl.Entry) { impl.CacheGet(list, key, now) })
			}
		}
	}
}
