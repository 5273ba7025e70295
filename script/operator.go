package script

import (
	"guilloche/api"
)

// operator is the sign of an operation, and the operation, which may have no value.
type operator struct {
	sign  byte
	apply func(a, b int) (int, bool)
}

// level is a line of the grammar.
type level struct {
	operators []operator
	once      bool // whether no operator of the level may follow another one
}

// levels returns the levels of all operators with two operands, from the weakest one on.
func levels() [5]level {
	return [5]level{
		{operators: []operator{{'|', or}}},
		{operators: []operator{{'&', and}}},
		{operators: []operator{{'=', equal}, {'<', less}, {'>', greater}}, once: true},
		{operators: []operator{{'+', sum}, {'-', difference}}},
		{operators: []operator{{'*', product}, {'/', quotient}, {'%', remainder}}},
	}
}

func or(a, b int) (int, bool)  { return truth(a != 0 || b != 0) }
func and(a, b int) (int, bool) { return truth(a != 0 && b != 0) }

func equal(a, b int) (int, bool)   { return truth(a == b) }
func less(a, b int) (int, bool)    { return truth(a < b) }
func greater(a, b int) (int, bool) { return truth(a > b) }

func truth(holds bool) (int, bool) {
	if holds {
		return 1, true
	}
	return 0, true
}

func sum(a, b int) (int, bool)        { return inRange(a + b) }
func difference(a, b int) (int, bool) { return inRange(a - b) }

func product(a, b int) (int, bool) {
	if a != 0 && abs(b) > api.MaxValue/abs(a) {
		return 0, false
	}
	return a * b, true
}

func quotient(a, b int) (int, bool) {
	if b == 0 {
		return 0, false
	}
	return a / b, true
}

func remainder(a, b int) (int, bool) {
	if b == 0 {
		return 0, false
	}
	return a % b, true
}

// inRange returns a number that is the value of an operation if it is not too great.
func inRange(n int) (int, bool) {
	if n < -api.MaxValue || n > api.MaxValue {
		return 0, false
	}
	return n, true
}

func abs(n int) int { return max(n, -n) }
