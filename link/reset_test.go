package link_test

import (
	"math"
	"testing"

	"link/link"
)

// P13: of an own stream nothing more is sent, but what waits in the row.
func TestResetOwn(t *testing.T) {
	end := newEnd(t, 0, 20)
	checkSubmit(t, end, nil, letters(40), 1)
	check(t, "Reset", end.Reset(1, 77), link.OK)
	checkDrain(t, end, head(1, ""), reset(1, 77))
	checkSubmit(t, end, nil, letters(18), 3)
	checkDrainMost(t, end, 2, head(3, ""), piece(3, letters(16)))
	check(t, "Reset", end.Reset(3, 0), link.OK)
	checkDrain(t, end, reset(3, 0))
	for _, stream := range []int{1, 3} {
		check(t, "Reset", end.Reset(stream, 0), link.ErrNone)
	}
	checkFeed(t, end, credit(0, 30)+credit(1, 30)+credit(3, 30), link.OK)
	checkDrain(t, end)
}

// P13: a stream whose last is drained is finished; one whose last waits is not.
func TestResetOwnFinished(t *testing.T) {
	end := newEnd(t, 1, 20)
	checkSubmit(t, end, nil, "", 2)
	checkSubmit(t, end, nil, "", 4)
	checkDrainMost(t, end, 3, head(2, ""), head(4, ""), last(2, ""))
	check(t, "Reset", end.Reset(2, 1), link.ErrNone)
	check(t, "Reset", end.Reset(4, 1), link.OK)
	checkDrain(t, end, reset(4, 1))
}

// P13: bytes of a stream of the other end that were not consumed are given back.
func TestResetOther(t *testing.T) {
	end := newEnd(t, 0, 20)
	checkFeed(t, end, head(2, "")+piece(2, "abcde")+head(4, "")+head(6, "")+piece(6, "xy"), link.OK, begun(2), bytes(2, "abcde"), begun(4), begun(6), bytes(6, "xy"))
	check(t, "Consume", end.Consume(2, 2), link.OK)
	check(t, "Consume", end.Consume(6, 2), link.OK)
	checkDrain(t, end, credit(0, 2), credit(2, 2), credit(0, 2), credit(6, 2))
	check(t, "Reset", end.Reset(2, 268435455), link.OK)
	check(t, "Reset", end.Reset(4, 128), link.OK)
	check(t, "Reset", end.Reset(6, 127), link.OK)
	checkDrain(t, end, reset(2, 268435455), credit(0, 3), reset(4, 128), reset(6, 127))
	for _, stream := range []int{2, 4, 6} {
		check(t, "Reset", end.Reset(stream, 0), link.ErrNone)
	}
	checkDrain(t, end)
}

func TestResetNone(t *testing.T) {
	end := newEnd(t, 0, 20)
	checkSubmit(t, end, nil, "abc", 1)
	checkFeed(t, end, head(2, "")+last(2, "abc")+head(4, "")+reset(4, 1), link.OK, begun(2), bytes(2, "abc"), ended(2), begun(4), wasReset(4, 1))
	checkDrain(t, end, head(1, ""), last(1, "abc"))
	for _, stream := range []int{math.MinInt, -1, 0, 1, 2, 3, 4, 5, 6, 268435455, 268435456, math.MaxInt} {
		check(t, "Reset", end.Reset(stream, 1), link.ErrNone)
	}
	checkDrain(t, end)
	check(t, "Consume", end.Consume(2, 3), link.OK)
}

func TestResetRange(t *testing.T) {
	end := newEnd(t, 0, 20)
	checkSubmit(t, end, nil, "abc", 1)
	checkFeed(t, end, head(2, ""), link.OK, begun(2))
	for _, code := range []int{math.MinInt, -1, 268435456, math.MaxInt} {
		for _, stream := range []int{1, 2, 3} {
			check(t, "Reset", end.Reset(stream, code), link.ErrRange)
		}
	}
	checkDrain(t, end, head(1, ""), last(1, "abc"))
	checkFeed(t, end, "\x08", link.ErrKind)
	check(t, "Reset", end.Reset(2, -1), link.ErrDown)
	check(t, "Reset", end.Reset(2, 1), link.ErrDown)
	check(t, "Reset", end.Reset(9, 1), link.ErrDown)
}

// P14: bytes of a stream that this end reset still use its credit, and are given back for all streams.
func TestBytesBehindReset(t *testing.T) {
	end := newEnd(t, 1, 20)
	checkFeed(t, end, head(1, "")+piece(1, "abcde"), link.OK, begun(1), bytes(1, "abcde"))
	check(t, "Reset", end.Reset(1, 3), link.OK)
	checkFeed(t, end, piece(1, letters(8)), link.OK)
	checkFeed(t, end, piece(1, letters(7)), link.OK)
	checkDrain(t, end, reset(1, 3), credit(0, 5), credit(0, 8), credit(0, 7))
	fill(t, end, 3, 20)
	fill(t, end, 5, 20)
	checkFeed(t, end, piece(1, "x"), link.ErrFlow)
	checkDrain(t, end, bye(5))
}

// P14: a last of no byte needs no credit, and gives none back.
func TestEmptyLastBehindReset(t *testing.T) {
	end := newEnd(t, 1, 5)
	fill(t, end, 1, 5)
	check(t, "Reset", end.Reset(1, 3), link.OK)
	checkFeed(t, end, last(1, ""), link.OK)
	checkDrain(t, end, reset(1, 3), credit(0, 5))
	checkFeed(t, end, last(1, ""), link.ErrStream)
}

// P14: bytes of a stream that this end reset must be within the credit of all, too.
func TestBytesBehindResetWithoutCreditOfAll(t *testing.T) {
	end := newEnd(t, 1, 10)
	checkFeed(t, end, head(1, ""), link.OK, begun(1))
	check(t, "Reset", end.Reset(1, 3), link.OK)
	fill(t, end, 3, 10)
	fill(t, end, 5, 8)
	checkFeed(t, end, piece(1, "ab")+piece(1, "cd"), link.OK)
	checkFeed(t, end, piece(1, "abc"), link.ErrFlow)
	checkDrain(t, end, reset(1, 3), credit(0, 2), credit(0, 2), bye(5))
}

// P14: a last ends a stream that this end reset, without an event.
func TestLastBehindReset(t *testing.T) {
	end := newEnd(t, 1, 20)
	checkFeed(t, end, head(1, ""), link.OK, begun(1))
	check(t, "Reset", end.Reset(1, 3), link.OK)
	checkFeed(t, end, last(1, "abc")+reset(1, 5), link.OK)
	checkDrain(t, end, reset(1, 3), credit(0, 3))
	check(t, "Reset", end.Reset(1, 3), link.ErrNone)
	checkFeed(t, end, piece(1, "x"), link.ErrStream)
}

// P14: resets that cross: neither is told, and the stream has ended for both.
func TestResetsCross(t *testing.T) {
	a, b := newEnd(t, 0, 20), newEnd(t, 1, 20)
	checkSubmit(t, a, nil, letters(40), 1)
	checkFeed(t, b, a.Drain(2), link.OK, begun(1), bytes(1, letters(16)))
	check(t, "Reset", a.Reset(1, 5), link.OK)
	check(t, "Reset", b.Reset(1, 6), link.OK)
	fromA, fromB := a.Drain(9), b.Drain(9)
	checkFeed(t, a, fromB, link.OK)
	checkFeed(t, b, fromA, link.OK)
	checkDrain(t, a)
	checkDrain(t, b)
	checkFeed(t, b, piece(1, "x"), link.ErrStream)
}

// P14: a reset of an own stream that is not finished, drained or not: what waits in the row still goes.
func TestResetOfOwnComes(t *testing.T) {
	end := newEnd(t, 0, 20)
	checkSubmit(t, end, nil, letters(18), 1)
	checkDrainMost(t, end, 2, head(1, ""), piece(1, letters(16)))
	checkSubmit(t, end, pairs("a", "1"), "abc", 3)
	checkFeed(t, end, reset(1, 268435455)+reset(3, 0), link.OK, wasReset(1, 268435455), wasReset(3, 0))
	checkFeed(t, end, reset(1, 7)+reset(3, 7)+credit(1, 1)+credit(3, 0), link.OK)
	checkDrain(t, end, head(3, write("a", "1")))
	check(t, "Reset", end.Reset(1, 7), link.ErrNone)
	checkSubmit(t, end, pairs("a", "1"), "", 5)
	checkDrain(t, end, head(5, "\x08"), last(5, ""))
	checkFeed(t, end, reset(5, 7), link.OK)
}

// P14: a reset of an open stream of the other end; what was not consumed is given back.
func TestResetOfOtherComes(t *testing.T) {
	end := newEnd(t, 1, 20)
	checkFeed(t, end, head(1, "")+piece(1, letters(16))+head(3, ""), link.OK, begun(1), bytes(1, letters(16)), begun(3))
	check(t, "Consume", end.Consume(1, 6), link.OK)
	checkFeed(t, end, reset(1, 128)+reset(3, 0), link.OK, wasReset(1, 128), wasReset(3, 0))
	checkDrain(t, end, credit(0, 6), credit(1, 6), credit(0, 10))
	checkFeed(t, end, reset(1, 128)+reset(3, 0), link.OK)
	check(t, "Consume", end.Consume(1, 1), link.ErrNone)
	check(t, "Reset", end.Reset(1, 1), link.ErrNone)
	checkDrain(t, end)
	checkFeed(t, end, last(1, ""), link.ErrStream)
}

// P14: what is given back when a reset comes is credit for the others.
func TestResetThatComesGivesCredit(t *testing.T) {
	end := newEnd(t, 1, 10)
	fill(t, end, 1, 10)
	fill(t, end, 3, 10)
	checkFeed(t, end, reset(1, 0), link.OK, wasReset(1, 0))
	fill(t, end, 5, 10)
	checkFeed(t, end, head(7, "")+piece(7, "x"), link.ErrFlow, begun(7))
}

// P14: a reset of a stream of the other end that has ended: nothing, and its bytes can still be consumed.
func TestResetBehindLast(t *testing.T) {
	end := newEnd(t, 1, 20)
	checkFeed(t, end, head(1, "")+last(1, "abc")+reset(1, 4), link.OK, begun(1), bytes(1, "abc"), ended(1))
	checkDrain(t, end)
	check(t, "Consume", end.Consume(1, 3), link.OK)
	checkFeed(t, end, reset(1, 4), link.OK)
	checkDrain(t, end, credit(0, 3))
}

// P14: a reset of a stream that has not begun.
func TestResetOfNoStream(t *testing.T) {
	for _, stream := range []int{3, 4, 5, 6, 268435454, 268435455} {
		end := newEnd(t, 0, 20)
		checkSubmit(t, end, nil, "", 1)
		checkFeed(t, end, head(2, "")+reset(stream, 1), link.ErrStream, begun(2))
	}
	for _, stream := range []int{1, 2} {
		for side := range 2 {
			checkFeed(t, newEnd(t, side, 20), reset(stream, 1), link.ErrStream)
		}
	}
}
