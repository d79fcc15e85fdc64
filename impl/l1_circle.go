package impl

// Circle is the number of positions of the circle, which are numbered from 0.
const Circle = 64

// MaxNodes is the largest number of nodes.
const MaxNodes = 10

// position is a place on the circle. All methods but valid expect valid
// positions, so that no sum or difference of two of them can overflow.
type position int

func (p position) valid() bool {
	return p >= 0 && p < Circle
}

// distance returns the number of steps upward from p to q.
func (p position) distance(q position) int {
	return int(q-p+Circle) % Circle
}

// turn is distance, except that the way from p to itself is a whole turn:
// a range with equal ends is the whole circle, not an empty one.
func (p position) turn(q position) int {
	if p == q {
		return Circle
	}
	return p.distance(q)
}

// between reports whether p is reached after a and before b.
func (p position) between(a, b position) bool {
	return p != a && a.distance(p) < a.turn(b)
}

// heldBy reports whether p is in the range above a up to b.
func (p position) heldBy(a, b position) bool {
	return a.turn(p) <= a.turn(b)
}

// CircleBetween reports whether x is strictly between a and b, going upward from a.
func CircleBetween(a int, x int, b int) bool {
	from, p, to := position(a), position(x), position(b)
	return from.valid() && p.valid() && to.valid() && p.between(from, to)
}

// CircleHolds reports whether a key is in the range after a up to b.
func CircleHolds(a int, b int, key int) bool {
	from, to, p := position(a), position(b), position(key)
	return from.valid() && to.valid() && p.valid() && p.heldBy(from, to)
}

// CircleDistance returns the number of steps upward from a to b.
func CircleDistance(a int, b int) int {
	from, to := position(a), position(b)
	if !from.valid() || !to.valid() {
		return -1
	}
	return from.distance(to)
}

// NodesValid reports whether nodes is a set of nodes.
func NodesValid(nodes []int) bool {
	if len(nodes) < 1 || len(nodes) > MaxNodes {
		return false
	}
	for i, n := range nodes {
		if !position(n).valid() || i > 0 && nodes[i-1] >= n {
			return false
		}
	}
	return true
}

// NodesNext returns the first node at a position or after it.
func NodesNext(nodes []int, key int) int {
	if !NodesValid(nodes) || !position(key).valid() {
		return -1
	}
	for _, n := range nodes {
		if n >= key {
			return n
		}
	}
	return nodes[0] // the way upward goes on at 0
}

// NodesBefore returns the last node before a position.
func NodesBefore(nodes []int, key int) int {
	if !NodesValid(nodes) || !position(key).valid() {
		return -1
	}
	before := nodes[len(nodes)-1] // if no node is below, the way downward goes on at Circle-1
	for _, n := range nodes {
		if n < key {
			before = n
		}
	}
	return before
}
