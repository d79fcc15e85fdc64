package tests

import (
	"testing"

	"loop.example/ringoverlay/impl"
)

// registerCall is a call of a function of chapter 13 that returns a register, with all arguments but the register and the sets.
type registerCall struct {
	name string
	do   func(list []impl.Replica, some, other []int) []impl.Replica
}

// registerCalls returns calls that write to some replicas, that write nothing, and that fail.
func registerCalls() []registerCall {
	calls := []registerCall{{"RegisterRead", func(list []impl.Replica, some, other []int) []impl.Replica {
		got, _, _ := impl.RegisterRead(list, some, other)
		return got
	}}}
	for _, writer := range []int{4, 60, impl.Circle} {
		calls = append(calls, registerCall{"RegisterWrite", func(list []impl.Replica, some, other []int) []impl.Replica {
			got, _ := impl.RegisterWrite(list, some, other, writer, 90)
			return got
		}})
	}
	for _, x := range []impl.Replica{zeroReplica, replica(1, 4, 90), replica(1, 4, 91), replica(50, 4, 7), replica(0, 4, 7)} {
		calls = append(calls, registerCall{"RegisterPart", func(list []impl.Replica, _, other []int) []impl.Replica {
			got, _ := impl.RegisterPart(list, other, x)
			return got
		}})
	}
	for _, many := range []int{0, 1, 2, 3, 4, 5, 6} {
		calls = append(calls, registerCall{"RegisterMove", func(list []impl.Replica, some, other []int) []impl.Replica {
			got, _ := impl.RegisterMove(list, some, many, other)
			return got
		}})
	}
	return calls
}

// memoryRegisters has registers of all sizes, and lists that are invalid.
func memoryRegisters() [][]impl.Replica {
	return append(goodRegisters(), nil, []impl.Replica{}, copies(zeroReplica, impl.MaxReplicas+1), []impl.Replica{replica(1, 4, 90), replica(1, 4, 91)}, []impl.Replica{replica(0, 4, 7)})
}

// memoryIndexSets has sets that are majorities of some of these registers, and others that are not.
func memoryIndexSets() [][]int {
	return [][]int{{}, {0}, {1}, {0, 1}, {1, 2}, {1, 2, 3}, {2, 3, 4}, {0, 1, 2, 3, 4}, {1, 0}, {0, 5}}
}

// spareReplica is in none of the registers.
var spareReplica = replica(-99, -99, -99)

// eachRegisterCall calls check with all calls, registers and pairs of sets.
func eachRegisterCall(check func(call registerCall, list []impl.Replica, some, other []int)) {
	for _, list := range memoryRegisters() {
		for _, call := range registerCalls() {
			for _, some := range memoryIndexSets() {
				for _, other := range memoryIndexSets() {
					check(call, list, some, other)
				}
			}
		}
	}
}

func TestRegistersMemory(t *testing.T) {
	eachRegisterCall(func(call registerCall, list []impl.Replica, some, other []int) {
		checkMemory(t, call.name, list, spareReplica, func(list []impl.Replica) []impl.Replica { return call.do(list, some, other) })
	})
}

// The empty registers of invalid arguments are results too.
func TestRegistersEmptyMemory(t *testing.T) {
	for _, list := range [][]impl.Replica{nil, {}, {replica(0, 4, 7)}, copies(zeroReplica, impl.MaxReplicas+1)} {
		for _, call := range registerCalls() {
			checkEmptyMemory(t, call.name, list, replica(1, 1, 1), replica(2, 2, 2), func(list []impl.Replica) []impl.Replica { return call.do(list, []int{0}, []int{0}) })
		}
	}
}

func TestRegistersUnmodified(t *testing.T) {
	eachRegisterCall(func(call registerCall, list []impl.Replica, some, other []int) {
		checkUnmodified(t, call.name, list, spareReplica, func(list []impl.Replica) { call.do(list, some, other) })
		checkUnmodified(t, call.name, some, -99, func(some []int) { call.do(list, some, other) })
		checkUnmodified(t, call.name, other, -99, func(other []int) { call.do(list, some, other) })
	})
	for _, list := range memoryRegisters() {
		checkUnmodified(t, "RegisterValid", list, spareReplica, func(list []impl.Replica) { impl.RegisterValid(list) })
		for _, some := range memoryIndexSets() {
			checkUnmodified(t, "RegisterLatest", list, spareReplica, func(list []impl.Replica) { impl.RegisterLatest(list, some) })
			checkUnmodified(t, "RegisterLatest", some, -99, func(some []int) { impl.RegisterLatest(list, some) })
		}
	}
}
