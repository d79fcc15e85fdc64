package tests

import (
	"math"
	"slices"
	"sync"

	"loop.example/ringoverlay/impl"
)

const noncesOfAll = impl.MaxNonce + 1

var notNonces = []int{-1, impl.MaxNonce + 1, impl.MaxNonce + 2, -impl.MaxNonce, 1009, math.MinInt, math.MinInt + 1, math.MaxInt - 1, math.MaxInt}

var notBits = []int{-1, impl.MaxBits + 1, impl.MaxBits + 2, -impl.MaxBits, 31, 32, 62, 63, 64, 65, math.MinInt, math.MinInt + 1, math.MaxInt - 1, math.MaxInt}

// modelHash only adds, and starts anew at 1009.
func modelHash(id, nonce int) int {
	n := 5
	for range id {
		n = (n + 31) % 1009
	}
	for range nonce {
		n = (n + 17) % 1009
	}
	hash := 0
	for range n {
		hash = (hash + n + nonce + 7) % 1009
	}
	return hash
}

// modelHashes has the hash of each position and each number.
var modelHashes = sync.OnceValue(func() [impl.Circle][noncesOfAll]int {
	var hashes [impl.Circle][noncesOfAll]int
	for id := range hashes {
		for nonce := range hashes[id] {
			hashes[id][nonce] = modelHash(id, nonce)
		}
	}
	return hashes
})

// isMultiple reports whether a hash can be halved as often.
func isMultiple(hash, bits int) bool {
	for range bits {
		if hash%2 != 0 {
			return false
		}
		hash /= 2
	}
	return true
}

// modelSolve goes down from the largest number; the last solution on the way is the smallest one.
func modelSolve(id, bits int) int {
	smallest := -1
	for nonce := impl.MaxNonce; nonce >= 0; nonce-- {
		if isMultiple(modelHashes()[id][nonce], bits) {
			smallest = nonce
		}
	}
	return smallest
}

// eachPuzzle calls check for all positions and difficulties.
func eachPuzzle(check func(id, bits int)) {
	for id := range impl.Circle {
		for bits := range impl.MaxBits + 1 {
			check(id, bits)
		}
	}
}

// pathsWith returns how many paths a position is on.
func pathsWith(paths [][]int, p int) int {
	many := 0
	for _, path := range paths {
		if slices.Contains(path, p) {
			many++
		}
	}
	return many
}

// modelDisjoint looks for each position on all paths, which are valid.
func modelDisjoint(paths [][]int) bool {
	for p := range impl.Circle {
		if pathsWith(paths, p) > 1 {
			return false
		}
	}
	return true
}

// modelHonest takes away the paths of each bad node, and counts those that are left.
func modelHonest(paths [][]int, bad []int) int {
	left := slices.Clone(paths)
	for _, b := range bad {
		left = slices.DeleteFunc(left, func(path []int) bool { return slices.Contains(path, b) })
	}
	return len(left)
}

// modelAnswer looks at the middle of the sorted answers, which must be one that more than half of them are equal to.
func modelAnswer(answers []int) (int, bool) {
	if len(answers) == 0 || len(answers) > impl.MaxPaths {
		return -1, false
	}
	sorted := slices.Sorted(slices.Values(answers))
	middle := sorted[len(sorted)/2]
	first, _ := slices.BinarySearch(sorted, middle)
	equal := 0
	for _, a := range sorted[first:] {
		if a == middle {
			equal++
		}
	}
	if equal <= len(answers)-equal {
		return -1, false
	}
	return middle, true
}

// shortPaths returns all paths of at most two of these positions.
func shortPaths(positions []int) [][]int {
	paths := [][]int{{}}
	for _, p := range positions {
		paths = append(paths, []int{p})
		for _, q := range positions {
			paths = append(paths, []int{p, q})
		}
	}
	return paths
}

// smallPathLists returns all lists of at most three such paths.
func smallPathLists(positions []int) [][][]int {
	lists := [][][]int{nil}
	paths := shortPaths(positions)
	for _, a := range paths {
		lists = append(lists, [][]int{a})
		for _, b := range paths {
			lists = append(lists, [][]int{a, b})
			for _, c := range paths {
				lists = append(lists, [][]int{a, b, c})
			}
		}
	}
	return lists
}

// dealt returns disjoint paths of mixed lengths; about a fourth of them are empty, and about a fourth have a position twice.
func dealt(random *spread, many int) [][]int {
	left := allKeys()
	paths := [][]int{}
	for range many {
		path := []int{}
		for range random.below(impl.MaxNodes-1) * min(1, random.below(4)) {
			i := random.below(len(left))
			path = append(path, left[i])
			left = slices.Delete(left, i, i+1)
		}
		if len(path) > 0 && random.below(4) == 0 {
			path = slices.Insert(path, random.below(len(path)+1), path[random.below(len(path))])
		}
		paths = append(paths, path)
	}
	return paths
}

// crossed returns the paths with a position of the first one at the given place of the second one.
func crossed(paths [][]int, from, to, place, p int) [][]int {
	list := slices.Clone(paths)
	list[from] = append(slices.Clone(list[from]), p)
	list[to] = slices.Insert(slices.Clone(list[to]), place, p)
	return list
}

// disjointLists returns disjoint lists of all lengths, most of which have empty paths.
var disjointLists = sync.OnceValue(func() [][][]int {
	lists := [][][]int{nil, {}, {nil}, {{}}, {nil, {}, nil}, slices.Repeat([][]int{{}}, impl.MaxPaths), mostPaths()}
	for _, list := range smallPathLists([]int{0, 31, 63}) {
		if modelDisjoint(list) {
			lists = append(lists, list)
		}
	}
	random := spread(32)
	for many := range impl.MaxPaths + 1 {
		for range 60 {
			lists = append(lists, dealt(&random, many))
		}
	}
	return lists
})

// crossedLists returns lists of two or more paths where one position is on two of them, for each two of the paths.
var crossedLists = sync.OnceValue(func() [][][]int {
	lists := [][][]int{}
	for _, list := range smallPathLists([]int{0, 31, 63}) {
		if !modelDisjoint(list) {
			lists = append(lists, list)
		}
	}
	random := spread(33)
	for many := 2; many <= impl.MaxPaths; many++ {
		for range 3 {
			paths := dealt(&random, many)
			free := slices.IndexFunc(allKeys(), func(p int) bool { return pathsWith(paths, p) == 0 })
			for from := range paths {
				for to := range from {
					lists = append(lists, crossed(paths, from, to, random.below(len(paths[to])+1), free), crossed(paths, to, from, random.below(len(paths[from])+1), free))
				}
			}
		}
	}
	return lists
})

// mostPaths returns MaxPaths paths, all of which are as long as disjoint paths can be, the first one with MaxNodes positions.
func mostPaths() [][]int {
	paths := [][]int{allKeys()[:impl.MaxNodes]}
	for i := range impl.MaxPaths - 1 {
		start := impl.MaxNodes + 9*i
		paths = append(paths, allKeys()[start:start+9])
	}
	return paths
}

// eachPathList calls check for all of these lists.
func eachPathList(check func(paths [][]int)) {
	for _, paths := range disjointLists() {
		check(paths)
	}
	for _, paths := range crossedLists() {
		check(paths)
	}
}

// badNodesFor returns lists of bad nodes: none, on one path each, on several, on all, on none, repeated ones, and numbers that are no positions.
func badNodesFor(paths [][]int) [][]int {
	lists := [][]int{nil, {}, {-1}, {impl.Circle}, notPositions, {0}, {31}, {63}, {0, 63}, {63, 31, 0}, {31, 31, 31}, allKeys(), allKeys()[1:], allKeys()[:63]}
	all, firsts, lasts := []int{}, []int{}, []int{}
	for _, path := range paths {
		if many := len(path); many > 0 {
			firsts, lasts = append(firsts, path[0]), append(lasts, path[many-1])
			lists = append(lists, []int{path[many/2]}, []int{-1, path[many-1], path[many-1]}, slices.Clone(firsts), slices.Clone(lasts), path)
		}
		all = append(all, path...)
	}
	free := slices.DeleteFunc(allKeys(), func(p int) bool { return slices.Contains(all, p) })
	return append(lists, all, free, append(slices.Clone(lasts), free...))
}

// eachHonest calls check with all of these lists of paths and bad nodes.
func eachHonest(check func(paths [][]int, bad []int)) {
	eachPathList(func(paths [][]int) {
		for _, bad := range badNodesFor(paths) {
			check(paths, bad)
		}
	})
	for _, paths := range smallPathLists([]int{0, 31, 63}) {
		for _, bad := range shortPaths([]int{0, 31, 63, 30, -1}) {
			check(paths, bad)
		}
	}
}

// answerValues are the integers that the answers are made of.
func answerValues() [][]int {
	return [][]int{{0, 1, 2}, {-1, 5, 0}, {7, -1, -7}, {math.MinInt, math.MaxInt, -1}, {math.MinInt, math.MinInt + 1, 0}, {math.MaxInt, math.MaxInt - 1, math.MinInt}}
}

// eachAnswers calls check with all answers of up to MaxPaths paths that are made of three integers.
func eachAnswers(check func(answers []int)) {
	for _, values := range answerValues() {
		for many := range impl.MaxPaths + 1 {
			answers := make([]int, many)
			for number := range int(math.Pow(3, float64(many))) {
				for i := range answers {
					answers[i] = values[number%3]
					number /= 3
				}
				check(answers)
			}
		}
	}
}

// votingPaths returns disjoint paths of five positions each; those with a bit in empty are empty.
func votingPaths(many, empty int) [][]int {
	paths := [][]int{}
	for i := range many {
		path := []int{}
		if empty>>i&1 == 0 {
			path = []int{i, 20 + i, 10 + i, 63 - i, 40 + i}
		}
		paths = append(paths, path)
	}
	return paths
}

// badNodeOn returns a node of a path; of an empty path, and behind the last path, it is a position that is on no path.
func badNodeOn(paths [][]int, path, place int) int {
	if path == len(paths) || len(paths[path]) == 0 {
		return 50 + place
	}
	return paths[path][place]
}

// eachVote calls check with disjoint paths and at most four bad nodes, each of which is on any path or on none.
func eachVote(check func(paths [][]int, bad []int)) {
	for many := range impl.MaxPaths + 1 {
		for _, empty := range []int{0, 1, 8, 1 << many >> 1, 0b1010101, 0b111, 1<<many - 1} {
			paths := votingPaths(many, empty)
			for nodes := range 5 {
				bad := make([]int, nodes)
				for number := range int(math.Pow(float64(many+1), float64(nodes))) {
					for i := range bad {
						bad[i] = badNodeOn(paths, number%(many+1), i)
						number /= many + 1
					}
					check(paths, bad)
				}
			}
		}
	}
}

// answersOf returns the answers of paths: those with a bad node give the wrong one.
func answersOf(paths [][]int, bad []int, right int, wrong func(path int) int) []int {
	answers := []int{}
	for i, path := range paths {
		if modelHonest([][]int{path}, bad) == 1 {
			answers = append(answers, right)
		} else {
			answers = append(answers, wrong(i))
		}
	}
	return answers
}
