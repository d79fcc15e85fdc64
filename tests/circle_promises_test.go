package tests

import (
	"slices"
	"testing"

	"loop.example/ringoverlay/impl"
)

func TestPromise1(t *testing.T) {
	for a := 0; a < impl.Circle; a++ {
		for x := 0; x < impl.Circle; x++ {
			for b := 0; b < impl.Circle; b++ {
				want := impl.CircleBetween(a, x, b)
				for by := 1; by < impl.Circle; by++ {
					if impl.CircleBetween((a+by)%impl.Circle, (x+by)%impl.Circle, (b+by)%impl.Circle) != want {
						t.Fatalf("CircleBetween(%d, %d, %d) is not the same when increased by %d", a, x, b, by)
					}
				}
			}
		}
	}
}

func TestPromise2(t *testing.T) {
	for a := 0; a < impl.Circle; a++ {
		for x := 0; x < impl.Circle; x++ {
			for b := 0; b < impl.Circle; b++ {
				if a == x || x == b || a == b {
					continue
				}
				if impl.CircleBetween(a, x, b) == impl.CircleBetween(b, x, a) {
					t.Fatalf("%d is between %d and %d in both directions or in none", x, a, b)
				}
			}
		}
	}
}

func TestPromise3(t *testing.T) {
	for a := 0; a < impl.Circle; a++ {
		for x := 0; x < impl.Circle; x++ {
			for b := 0; b < impl.Circle; b++ {
				if a == b {
					continue
				}
				d := impl.CircleDistance(a, x)
				if impl.CircleBetween(a, x, b) != (d > 0 && d < impl.CircleDistance(a, b)) {
					t.Fatalf("CircleBetween(%d, %d, %d) contradicts the distances", a, x, b)
				}
			}
		}
	}
}

func TestPromise4(t *testing.T) {
	for a := 0; a < impl.Circle; a++ {
		for b := 0; b < impl.Circle; b++ {
			if impl.CircleBetween(a, a, b) {
				t.Errorf("CircleBetween(%d, %d, %d) holds", a, a, b)
			}
			if a != b && impl.CircleBetween(a, b, b) {
				t.Errorf("CircleBetween(%d, %d, %d) holds", a, b, b)
			}
			if a != b && !impl.CircleBetween(a, b, a) {
				t.Errorf("CircleBetween(%d, %d, %d) fails", a, b, a)
			}
		}
	}
}

func TestPromise5(t *testing.T) {
	for a := 0; a < impl.Circle; a++ {
		for b := 0; b < impl.Circle; b++ {
			for c := 0; c < impl.Circle; c++ {
				if !impl.CircleBetween(a, b, c) {
					continue
				}
				for key := 0; key < impl.Circle; key++ {
					if impl.CircleHolds(a, c, key) != (impl.CircleHolds(a, b, key) != impl.CircleHolds(b, c, key)) {
						t.Fatalf("%d of the range after %d up to %d is not in exactly one part when divided at %d", key, a, c, b)
					}
				}
			}
		}
	}
}

func TestPromise6(t *testing.T) {
	for a := 0; a < impl.Circle; a++ {
		for b := 0; b < impl.Circle; b++ {
			held := 0
			for key := 0; key < impl.Circle; key++ {
				if impl.CircleHolds(a, b, key) {
					held++
				}
			}
			want := impl.CircleDistance(a, b)
			if a == b {
				want = impl.Circle
			}
			if held != want {
				t.Errorf("CircleHolds(%d, %d, key) holds for %d keys, want %d", a, b, held, want)
			}
		}
	}
}

func TestPromise7(t *testing.T) {
	for a := 0; a < impl.Circle; a++ {
		for b := 0; b < impl.Circle; b++ {
			there, back := impl.CircleDistance(a, b), impl.CircleDistance(b, a)
			if a == b && (there != 0 || back != 0) {
				t.Errorf("the distance from %d to itself is %d", a, there)
			}
			if a != b && there+back != impl.Circle {
				t.Errorf("the distances between %d and %d are %d and %d", a, b, there, back)
			}
		}
	}
}

func TestPromise8(t *testing.T) {
	for a := 0; a < impl.Circle; a++ {
		for b := 0; b < impl.Circle; b++ {
			for c := 0; c < impl.Circle; c++ {
				sum, whole := impl.CircleDistance(a, b)+impl.CircleDistance(b, c), impl.CircleDistance(a, c)
				if sum != whole && sum != whole+impl.Circle {
					t.Fatalf("the distances of %d, %d and %d are %d together and %d", a, b, c, sum, whole)
				}
			}
		}
	}
}

func TestPromise9(t *testing.T) {
	for _, nodes := range someSets() {
		for key := 0; key < impl.Circle; key++ {
			var holders []int
			for _, n := range nodes {
				if impl.CircleHolds(impl.NodesBefore(nodes, n), n, key) {
					holders = append(holders, n)
				}
			}
			if next := impl.NodesNext(nodes, key); len(holders) != 1 || holders[0] != next {
				t.Fatalf("of %v, %v hold key %d, and NodesNext is %d", nodes, holders, key, next)
			}
		}
	}
}

func TestPromise10(t *testing.T) {
	for _, nodes := range someSets() {
		for key := 0; key < impl.Circle; key++ {
			before := impl.NodesBefore(nodes, key)
			if !slices.Contains(nodes, before) {
				t.Fatalf("NodesBefore(%v, %d) = %d is not a node", nodes, key, before)
			}
			for _, n := range nodes {
				if impl.CircleBetween(before, n, key) {
					t.Fatalf("node %d is between NodesBefore(%v, %d) = %d and the key", n, nodes, key, before)
				}
			}
		}
	}
}

// with returns the set with another node.
func with(nodes []int, added int) []int {
	at, _ := slices.BinarySearch(nodes, added)
	return slices.Insert(slices.Clone(nodes), at, added)
}

func TestPromise11(t *testing.T) {
	for _, nodes := range someSets() {
		for added := 0; added < impl.Circle && len(nodes) < impl.MaxNodes; added += 5 {
			if !slices.Contains(nodes, added) {
				checkAdded(t, nodes, added)
			}
		}
	}
}

func checkAdded(t *testing.T, nodes []int, added int) {
	t.Helper()
	more := with(nodes, added)
	var losers []int
	for key := 0; key < impl.Circle; key++ {
		was, is := impl.NodesNext(nodes, key), impl.NodesNext(more, key)
		held := impl.CircleHolds(impl.NodesBefore(more, added), added, key)
		if held && is != added || !held && is != was {
			t.Fatalf("with node %d added to %v, NodesNext of %d changes from %d to %d", added, nodes, key, was, is)
		}
		if held {
			losers = append(losers, was)
		}
	}
	if losers = slices.Compact(losers); len(losers) != 1 {
		t.Fatalf("the keys of node %d, added to %v, had the nodes %v", added, nodes, losers)
	}
}

func TestPromise12(t *testing.T) {
	for _, nodes := range someSets() {
		if !impl.NodesValid(nodes) {
			t.Fatalf("NodesValid(%v) fails", nodes)
		}
		for i, n := range nodes {
			fewer := slices.Delete(slices.Clone(nodes), i, i+1)
			if impl.NodesValid(fewer) != (len(fewer) > 0) {
				t.Fatalf("NodesValid(%v) = %v", fewer, len(fewer) == 0)
			}
			for at := 0; at <= len(nodes); at++ {
				if repeated := slices.Insert(slices.Clone(nodes), at, n); impl.NodesValid(repeated) {
					t.Fatalf("NodesValid(%v) holds", repeated)
				}
			}
		}
	}
}
