package tests

import (
	"slices"
	"testing"

	"loop.example/ringoverlay/impl"
)

func TestPromise51(t *testing.T) {
	eachMember(func(nodes []int, id int) {
		fingers := impl.FingersOf(nodes, id)
		if len(fingers) != impl.Fingers {
			t.Fatalf("FingersOf(%v, %d) = %v", nodes, id, fingers)
		}
		power := 1
		for i, f := range fingers {
			if want := impl.NodesNext(nodes, (id+power)%impl.Circle); f != want {
				t.Fatalf("finger %d of node %d of %v is %d, want %d", i, id, nodes, f, want)
			}
			power *= 2
		}
	})
}

func TestPromise52(t *testing.T) {
	eachMember(func(nodes []int, id int) {
		fingers := impl.FingersOf(nodes, id)
		if len(fingers) == 0 || !slices.Contains(nodes, fingers[0]) {
			t.Fatalf("FingersOf(%v, %d) = %v", nodes, id, fingers)
		}
		for _, n := range nodes {
			if impl.CircleBetween(id, n, fingers[0]) {
				t.Fatalf("node %d of %v is between node %d and its first finger %d", n, nodes, id, fingers[0])
			}
		}
	})
}

func TestPromise53(t *testing.T) {
	eachLookup(func(nodes []int, id, key int) {
		path := impl.LookupPath(nodes, id, key)
		if len(path) == 0 || path[0] != id || path[len(path)-1] != impl.NodesNext(nodes, key) {
			t.Fatalf("LookupPath(%v, %d, %d) = %v, where NodesNext is %d", nodes, id, key, path, impl.NodesNext(nodes, key))
		}
	})
}

func TestPromise54(t *testing.T) {
	eachPath(t, func(nodes []int, key int, path []int) {
		if len(path) > impl.Fingers+2 {
			t.Fatalf("LookupPath(%v, %d, %d) = %v has %d nodes", nodes, path[0], key, path, len(path))
		}
	})
}

func TestPromise55(t *testing.T) {
	eachPath(t, func(nodes []int, key int, path []int) {
		for i, n := range path {
			if !slices.Contains(nodes, n) || slices.Contains(path[:i], n) {
				t.Fatalf("LookupPath(%v, %d, %d) = %v has %d, which is not a node or a repeated one", nodes, path[0], key, path, n)
			}
		}
	})
}

func TestPromise56(t *testing.T) {
	steps := 0
	eachPath(t, func(nodes []int, key int, path []int) {
		p := impl.NodesBefore(nodes, key)
		for i := 1; i < len(path)-1; i++ {
			was, is := impl.CircleDistance(path[i-1], p), impl.CircleDistance(path[i], p)
			if is != 0 && 2*is >= was {
				t.Fatalf("on LookupPath(%v, %d, %d) = %v, the distance to %d goes from %d to %d", nodes, path[0], key, path, p, was, is)
			}
			if is != 0 {
				steps++
			}
		}
	})
	if steps < 1000 {
		t.Errorf("only %d steps do not lead to the node before the key or from it", steps)
	}
}

func TestPromise57(t *testing.T) {
	eachPath(t, func(nodes []int, key int, path []int) {
		for i := 1; i < len(path); i++ {
			if next := impl.LookupNext(nodes, path[i-1], key); path[i] != next {
				t.Fatalf("on LookupPath(%v, %d, %d) = %v, LookupNext of %d is %d", nodes, path[0], key, path, path[i-1], next)
			}
		}
	})
}

func TestPromise58(t *testing.T) {
	eachLookup(func(nodes []int, id, key int) {
		next := impl.LookupNext(nodes, id, key)
		if !slices.Contains(impl.FingersOf(nodes, id), next) {
			t.Fatalf("LookupNext(%v, %d, %d) = %d is not a finger", nodes, id, key, next)
		}
		holds := impl.CircleHolds(impl.NodesBefore(nodes, next), next, key)
		if key != id && impl.CircleBetween(id, key, next) && !holds {
			t.Fatalf("LookupNext(%v, %d, %d) = %d goes beyond the key, but does not hold it", nodes, id, key, next)
		}
	})
}

func TestPromise59(t *testing.T) {
	eachPath(t, func(nodes []int, key int, path []int) {
		for i, n := range path {
			if rest := impl.LookupPath(nodes, n, key); !slices.Equal(rest, path[i:]) {
				t.Fatalf("LookupPath(%v, %d, %d) = %v, but from %d it is %v", nodes, path[0], key, path, n, rest)
			}
		}
	})
}

func TestPromise60(t *testing.T) {
	eachRange(func(nodes []int, a, b int) {
		got := impl.LookupRange(nodes, a, b)
		var want []int
		for steps := range impl.CircleDistance(a, b) + 1 {
			if n := impl.NodesNext(nodes, (a+steps)%impl.Circle); !slices.Contains(want, n) {
				want = append(want, n)
			}
		}
		for i, n := range got {
			if !slices.Contains(want, n) || slices.Contains(got[:i], n) {
				t.Fatalf("LookupRange(%v, %d, %d) = %v has %d, which holds no key or is repeated", nodes, a, b, got, n)
			}
		}
		if len(got) != len(want) {
			t.Fatalf("LookupRange(%v, %d, %d) = %v, but %v hold keys", nodes, a, b, got, want)
		}
	})
}

func TestPromise61(t *testing.T) {
	for _, nodes := range lookupSets() {
		for a := range impl.Circle {
			if got := impl.LookupRange(nodes, a, a); len(got) != 1 || got[0] != impl.NodesNext(nodes, a) {
				t.Fatalf("LookupRange(%v, %d, %d) = %v", nodes, a, a, got)
			}
		}
	}
}

func TestPromise62(t *testing.T) {
	eachMember(func(nodes []int, id int) {
		if got := impl.LookupPath(nodes, id, id); len(got) != 1 || got[0] != id {
			t.Fatalf("LookupPath(%v, %d, %d) = %v", nodes, id, id, got)
		}
	})
}
