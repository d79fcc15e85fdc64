package tests

import (
	"slices"
	"testing"

	"loop.example/ringoverlay/impl"
)

// eachStored calls check for the calls of eachStore, which must succeed.
func eachStored(t *testing.T, check func(list, got []impl.Entry, key, value, now int)) {
	t.Helper()
	count := 0
	eachStore(func(list []impl.Entry, key, value, now int) {
		check(list, cachePut(t, list, key, value, now), key, value, now)
		count++
	})
	succeeded(t, count)
}

// eachDropped calls check for the calls of eachDrop that succeed.
func eachDropped(t *testing.T, check func(list, got []impl.Entry, key int)) {
	t.Helper()
	count := 0
	eachDrop(func(list []impl.Entry, key int) {
		if got, ok := impl.CacheDrop(list, key); ok {
			check(list, got, key)
			count++
		}
	})
	if count < 100 {
		t.Errorf("only %d keys are removed", count)
	}
}

// otherEntries returns the entries of other keys.
func otherEntries(list []impl.Entry, key int) []impl.Entry {
	return slices.DeleteFunc(slices.Clone(list), func(e impl.Entry) bool { return e.Key == key })
}

// isOldest reports whether no other entry has a smaller time, or the same time and a smaller key.
func isOldest(list []impl.Entry, e impl.Entry) bool {
	return !slices.ContainsFunc(list, func(other impl.Entry) bool {
		return other.Time < e.Time || other.Time == e.Time && other.Key < e.Key
	})
}

func TestPromise114(t *testing.T) {
	eachStored(t, func(list, got []impl.Entry, key, value, now int) {
		if read, ok := impl.CacheGet(got, key, now); !ok || read != value || !impl.CacheValid(got) {
			t.Fatalf("CachePut(%v, %d, %d, %d) = %v, where CacheGet returns %d, %v", list, key, value, now, got, read, ok)
		}
	})
}

// checkUse requires that the value is returned at this time if it is one of those from now to Life later, and is not returned otherwise.
func checkUse(t *testing.T, got []impl.Entry, key, value, now, time int) {
	t.Helper()
	want, wantOk := 0, time >= now && time <= now+impl.Life
	if wantOk {
		want = value
	}
	if read, ok := impl.CacheGet(got, key, time); ok != wantOk || read != want {
		t.Fatalf("the value %d was stored at %d, but CacheGet(%v, %d, %d) = %d, %v", value, now, got, key, time, read, ok)
	}
}

func TestPromise115(t *testing.T) {
	eachStored(t, func(_, got []impl.Entry, key, value, now int) {
		for _, time := range []int{0, now - 11, now - 10, now - 1, now, now + 1, now + 9, now + 10, now + 11, impl.MaxTime} {
			if time >= 0 && time <= impl.MaxTime {
				checkUse(t, got, key, value, now, time)
			}
		}
	})
}

func TestPromise115AllTimes(t *testing.T) {
	for _, list := range goodCaches() {
		for _, key := range []int{0, 20, 35, 63} {
			for _, now := range []int{0, 1, 10, 20, 500, 988, 989, 990, 998, 999} {
				got := cachePut(t, list, key, 77, now)
				for time := range impl.MaxTime + 1 {
					checkUse(t, got, key, 77, now, time)
				}
			}
		}
	}
}

func TestPromise116(t *testing.T) {
	count := 0
	eachGet(func(list []impl.Entry, key, now int) {
		value, ok := impl.CacheGet(list, key, now)
		if !ok {
			return
		}
		count++
		if !slices.ContainsFunc(list, func(e impl.Entry) bool {
			return e.Key == key && e.Value == value && e.Time <= now && now <= e.Time+impl.Life
		}) {
			t.Fatalf("CacheGet(%v, %d, %d) = %d", list, key, now, value)
		}
	})
	succeeded(t, count)
}

func TestPromise117(t *testing.T) {
	removals, replacements := 0, 0
	eachStored(t, func(list, got []impl.Entry, key, value, now int) {
		want := otherEntries(list, key)
		switch {
		case hasKey(list, key):
			replacements++
		case len(list) == impl.MaxEntries:
			want = slices.DeleteFunc(want, func(e impl.Entry) bool { return isOldest(list, e) })
			removals++
		}
		if !slices.Equal(otherEntries(got, key), want) {
			t.Fatalf("CachePut(%v, %d, %d, %d) = %v, want the other entries %v", list, key, value, now, got, want)
		}
	})
	succeeded(t, removals)
	succeeded(t, replacements)
}

func TestPromise118(t *testing.T) {
	eachStored(t, func(list, got []impl.Entry, key, value, now int) {
		want := len(list) + 1
		if hasKey(list, key) || len(list) == impl.MaxEntries {
			want = len(list)
		}
		if len(got) != want || len(got) > impl.MaxEntries {
			t.Fatalf("CachePut(%v, %d, %d, %d) = %v, want %d entries", list, key, value, now, got, want)
		}
	})
}

func TestPromise119(t *testing.T) {
	eachStored(t, func(list, got []impl.Entry, key, value, now int) {
		if again := cachePut(t, got, key, value, now); !slices.Equal(again, got) {
			t.Fatalf("CachePut(%v, %d, %d, %d) = %v, and then %v", list, key, value, now, got, again)
		}
	})
}

// The second value may be stored at the same time, later, or earlier.
func TestPromise120(t *testing.T) {
	eachStored(t, func(list, got []impl.Entry, key, value, now int) {
		for _, time := range []int{0, now - 1, now, now + 1, now + 11, impl.MaxTime} {
			if time < 0 || time > impl.MaxTime {
				continue
			}
			for _, second := range []int{(value + 1) % 100, 99 - value} {
				changed := cachePut(t, got, key, second, time)
				if read, ok := impl.CacheGet(changed, key, time); !ok || read != second {
					t.Fatalf("CachePut(%v, %d, %d, %d) = %v, where CacheGet returns %d, %v", got, key, second, time, changed, read, ok)
				}
				if !slices.Equal(otherEntries(changed, key), otherEntries(got, key)) {
					t.Fatalf("a second value for key %d in %v, which was %v, changes other entries: %v", key, got, list, changed)
				}
			}
		}
	})
}

func TestPromise121(t *testing.T) {
	eachDropped(t, func(list, got []impl.Entry, key int) {
		if !slices.Equal(got, otherEntries(list, key)) {
			t.Fatalf("CacheDrop(%v, %d) = %v", list, key, got)
		}
		for now := range impl.MaxTime + 1 {
			if value, ok := impl.CacheGet(got, key, now); ok {
				t.Fatalf("CacheDrop(%v, %d) = %v, where CacheGet returns %d at %d", list, key, got, value, now)
			}
		}
	})
}

// What was not there is not there afterwards, and all entries are kept.
func TestPromise121NotThere(t *testing.T) {
	count := 0
	eachDrop(func(list []impl.Entry, key int) {
		if hasKey(list, key) {
			return
		}
		count++
		if got, ok := impl.CacheDrop(list, key); ok || !slices.Equal(got, list) {
			t.Fatalf("CacheDrop(%v, %d) = %v, %v", list, key, got, ok)
		}
	})
	succeeded(t, count)
}

func TestPromise122(t *testing.T) {
	kept, removed := 0, 0
	eachSweep(func(list []impl.Entry, now int) {
		want := []impl.Entry{}
		for _, e := range list {
			if _, ok := impl.CacheGet(list, e.Key, now); ok {
				want = append(want, e)
			}
		}
		kept += len(want)
		removed += len(list) - len(want)
		if got := impl.CacheSweep(list, now); !slices.Equal(got, want) || !impl.CacheValid(got) {
			t.Fatalf("CacheSweep(%v, %d) = %v, want %v", list, now, got, want)
		}
	})
	succeeded(t, kept)
	succeeded(t, removed)
}

func TestPromise123(t *testing.T) {
	eachSweep(func(list []impl.Entry, now int) {
		swept := impl.CacheSweep(list, now)
		for _, key := range nearKeys(list) {
			value, ok := impl.CacheGet(list, key, now)
			if after, okAfter := impl.CacheGet(swept, key, now); after != value || okAfter != ok {
				t.Fatalf("CacheGet(%v, %d, %d) = %d, %v, but %d, %v in %v", list, key, now, value, ok, after, okAfter, swept)
			}
		}
	})
}
