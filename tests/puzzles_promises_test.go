package tests

import (
	"math"
	"slices"
	"testing"

	"loop.example/ringoverlay/impl"
)

func TestPromise133(t *testing.T) {
	for id := range impl.Circle {
		for nonce := range noncesOfAll {
			if got := impl.PuzzleHash(id, nonce); got < 0 || got > 1008 {
				t.Fatalf("PuzzleHash(%d, %d) = %d", id, nonce, got)
			}
		}
		for _, nonce := range notNonces {
			if got := impl.PuzzleHash(id, nonce); got != -1 {
				t.Fatalf("PuzzleHash(%d, %d) = %d, want -1", id, nonce, got)
			}
		}
	}
	for _, id := range notPositions {
		for nonce := range noncesOfAll {
			if got := impl.PuzzleHash(id, nonce); got != -1 {
				t.Fatalf("PuzzleHash(%d, %d) = %d, want -1", id, nonce, got)
			}
		}
	}
}

// Each difficulty has solutions that are none of the next one.
func TestPromise134(t *testing.T) {
	var only [impl.MaxBits + 1]int
	eachPuzzle(func(id, bits int) {
		for nonce := range noncesOfAll {
			if !impl.PuzzleOk(id, nonce, bits) {
				continue
			}
			if hash := impl.PuzzleHash(id, nonce); hash%(1<<bits) != 0 {
				t.Fatalf("PuzzleOk(%d, %d, %d), but the hash is %d", id, nonce, bits, hash)
			}
			for less := range bits {
				if !impl.PuzzleOk(id, nonce, less) {
					t.Fatalf("PuzzleOk(%d, %d, %d), but not for difficulty %d", id, nonce, bits, less)
				}
			}
			if !impl.PuzzleOk(id, nonce, bits+1) {
				only[bits]++
			}
		}
	})
	if want := [impl.MaxBits + 1]int{8165, 4109, 2053, 1039, 507, 511}; only != want {
		t.Errorf("%v numbers are solutions of one difficulty and not of the next one, want %v", only, want)
	}
}

func TestPromise135(t *testing.T) {
	eachPuzzle(func(id, bits int) {
		got := impl.PuzzleSolve(id, bits)
		end := got
		if got == -1 {
			end = noncesOfAll
		} else if !impl.PuzzleOk(id, got, bits) {
			t.Fatalf("PuzzleSolve(%d, %d) = %d, which is no solution", id, bits, got)
		}
		for nonce := range end {
			if impl.PuzzleOk(id, nonce, bits) {
				t.Fatalf("PuzzleSolve(%d, %d) = %d, but %d is a solution", id, bits, got, nonce)
			}
		}
	})
}

// There is a solution for every position and difficulty, so that -1 is never among those that are compared.
func TestPromise136(t *testing.T) {
	for id := range impl.Circle {
		if got := impl.PuzzleSolve(id, 0); got != 0 {
			t.Errorf("PuzzleSolve(%d, 0) = %d", id, got)
		}
		for bits := range impl.MaxBits {
			if less, more := impl.PuzzleSolve(id, bits), impl.PuzzleSolve(id, bits+1); less < 0 || more < less {
				t.Errorf("PuzzleSolve(%d, %d) = %d, and for difficulty %d it is %d", id, bits, less, bits+1, more)
			}
		}
	}
}

// twicePosition returns a position that is on two paths, compared with each other directly.
func twicePosition(paths [][]int) (int, bool) {
	for i, path := range paths {
		for _, p := range path {
			if pathsWith(paths[:i], p) > 0 {
				return p, true
			}
		}
	}
	return -1, false
}

func TestPromise137(t *testing.T) {
	disjoint, crossed := 0, 0
	eachPathList(func(paths [][]int) {
		p, twice := twicePosition(paths)
		if got := impl.PathsDisjoint(paths); got == twice {
			t.Fatalf("PathsDisjoint(%v) = %v, and position %d is on two paths: %v", paths, got, p, twice)
		}
		if twice {
			crossed++
			return
		}
		disjoint++
		for i := range paths {
			if fewer := slices.Delete(slices.Clone(paths), i, i+1); !impl.PathsDisjoint(fewer) {
				t.Fatalf("PathsDisjoint(%v), but not without path %d", paths, i)
			}
		}
	})
	if disjoint < 500 || crossed < 500 {
		t.Errorf("only %d disjoint lists and %d others", disjoint, crossed)
	}
}

// Also without several paths, whichever they are, disjoint paths stay disjoint.
func TestPromise137Several(t *testing.T) {
	for _, paths := range disjointLists() {
		for kept := range 1 << len(paths) {
			fewer := [][]int{}
			for i, path := range paths {
				if kept>>i&1 == 1 {
					fewer = append(fewer, path)
				}
			}
			if !impl.PathsDisjoint(fewer) {
				t.Fatalf("PathsDisjoint(%v) is false, but %v are disjoint", fewer, paths)
			}
		}
	}
}

func timesGiven(answers []int, answer int) int {
	times := 0
	for _, a := range answers {
		if a == answer {
			times++
		}
	}
	return times
}

func TestPromise138(t *testing.T) {
	some, none := 0, 0
	eachAnswers(func(answers []int) {
		got := impl.PathsAnswer(answers)
		more := slices.DeleteFunc(slices.Clone(answers), func(a int) bool { return 2*timesGiven(answers, a) <= len(answers) })
		if len(more) == 0 {
			none++
			if got != -1 {
				t.Fatalf("PathsAnswer(%v) = %d, want -1", answers, got)
			}
			return
		}
		some++
		if got != more[0] || len(slices.Compact(more)) != 1 {
			t.Fatalf("PathsAnswer(%v) = %d, want one of %v", answers, got, more)
		}
	})
	succeeded(t, some)
	succeeded(t, none)
}

// The answers count, not their order.
func TestPromise138AnyOrder(t *testing.T) {
	eachAnswers(func(answers []int) {
		got := impl.PathsAnswer(answers)
		for i := range answers {
			other := slices.Concat(answers[i:], answers[:i])
			slices.Reverse(other[len(other)/2:])
			if again := impl.PathsAnswer(other); again != got {
				t.Fatalf("PathsAnswer(%v) = %d, but PathsAnswer(%v) = %d", answers, got, other, again)
			}
		}
	})
}

// The bound is reached where each bad node is on a path of its own, and it is not where some are on none or on one together.
func TestPromise139(t *testing.T) {
	reached, above := 0, 0
	check := func(paths [][]int, bad []int) {
		if !impl.PathsDisjoint(paths) {
			return
		}
		got, least := impl.PathsHonest(paths, bad), len(paths)-len(bad)
		if got < least || got > len(paths) {
			t.Fatalf("PathsHonest(%v, %v) = %d, but at least %d of %d paths have no bad node", paths, bad, got, least, len(paths))
		}
		if got == least {
			reached++
		} else {
			above++
		}
	}
	eachHonest(check)
	eachVote(check)
	succeeded(t, reached)
	succeeded(t, above)
}

// answerPairs are right answers and the wrong one that all paths with bad nodes give.
func answerPairs() [][2]int {
	return [][2]int{{1, 2}, {0, -1}, {-1, 0}, {-7, 7}, {math.MinInt, math.MaxInt}, {math.MaxInt, math.MinInt}}
}

func TestPromise140(t *testing.T) {
	count := 0
	check := func(paths [][]int, bad []int) {
		if !impl.PathsDisjoint(paths) || len(paths) <= 2*len(bad) {
			return
		}
		count++
		for _, pair := range answerPairs() {
			right, wrong := pair[0], pair[1]
			same := answersOf(paths, bad, right, func(int) int { return wrong })
			others := answersOf(paths, bad, right, func(path int) int { return wrong/2 + path })
			for _, answers := range [][]int{same, others} {
				if got := impl.PathsAnswer(answers); got != right {
					t.Fatalf("%d of the paths %v have a node of %v, and PathsAnswer(%v) = %d", len(paths)-impl.PathsHonest(paths, bad), paths, bad, answers, got)
				}
			}
		}
	}
	eachHonest(check)
	eachVote(check)
	succeeded(t, count)
}

// outvoted returns what the answer is if each of these bad nodes is on a path of its own.
func outvoted(paths, bad, right, wrong int) int {
	switch {
	case 2*bad < paths:
		return right
	case 2*bad == paths:
		return -1
	default:
		return wrong
	}
}

// With as many bad nodes as half of the paths there need not be an answer, and with more it may be a wrong one: the promise says no more than what holds.
func TestPromise140Bound(t *testing.T) {
	less, half, more := 0, 0, 0
	eachVote(func(paths [][]int, bad []int) {
		if impl.PathsHonest(paths, bad) != len(paths)-len(bad) {
			return
		}
		switch {
		case len(paths) > 2*len(bad):
			less++
		case len(paths) == 2*len(bad):
			half++
		default:
			more++
		}
		for _, pair := range answerPairs() {
			answers := answersOf(paths, bad, pair[0], func(int) int { return pair[1] })
			if got, want := impl.PathsAnswer(answers), outvoted(len(paths), len(bad), pair[0], pair[1]); got != want {
				t.Fatalf("with %d paths and %d bad nodes, PathsAnswer(%v) = %d, want %d", len(paths), len(bad), answers, got, want)
			}
		}
	})
	succeeded(t, less)
	succeeded(t, more)
	if half < 300 {
		t.Errorf("as many as half of the nodes were bad only %d times", half)
	}
}
