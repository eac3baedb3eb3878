package link_test

import (
	"math"
	"testing"

	"link/link"
)

func TestConsumeOrdinary(t *testing.T) {
	end := newEnd(t, 1, 20)
	checkFeed(t, end, head(1, "")+piece(1, "abcde"), link.OK, begun(1), bytes(1, "abcde"))
	check(t, "Consume", end.Consume(1, 2), link.OK)
	checkDrain(t, end, credit(0, 2), credit(1, 2))
	check(t, "Consume", end.Consume(1, 1), link.OK)
	check(t, "Consume", end.Consume(1, 2), link.OK)
	checkDrain(t, end, credit(0, 1), credit(1, 1), credit(0, 2), credit(1, 2))
	check(t, "Consume", end.Consume(1, 1), link.ErrNone)
	checkDrain(t, end)
}

// P11: of a stream that has ended, the credit is for all streams alone.
func TestConsumeBehindLast(t *testing.T) {
	end := newEnd(t, 0, 20)
	checkFeed(t, end, head(2, "")+piece(2, "abc")+last(2, "de"), link.OK, begun(2), bytes(2, "abc"), bytes(2, "de"), ended(2))
	check(t, "Consume", end.Consume(2, 6), link.ErrNone)
	check(t, "Consume", end.Consume(2, 1), link.OK)
	check(t, "Consume", end.Consume(2, 4), link.OK)
	check(t, "Consume", end.Consume(2, 1), link.ErrNone)
	checkDrain(t, end, credit(0, 1), credit(0, 4))
}

// P11: what is no stream of which as many bytes wait.
func TestConsumeNone(t *testing.T) {
	end := newEnd(t, 0, 20)
	checkSubmit(t, end, nil, "abc", 1)
	checkDrain(t, end, head(1, ""), last(1, "abc"))
	checkFeed(t, end, head(2, "")+piece(2, "abc")+head(4, "")+last(4, "")+head(6, ""), link.OK, begun(2), bytes(2, "abc"), begun(4), ended(4), begun(6))
	for _, stream := range []int{math.MinInt, -2, -1, 0, 1, 3, 4, 5, 6, 8, 268435454, 268435458, math.MaxInt} {
		check(t, "Consume", end.Consume(stream, 1), link.ErrNone)
	}
	for _, n := range []int{4, 5, 20, math.MaxInt} {
		check(t, "Consume", end.Consume(2, n), link.ErrNone)
	}
	checkDrain(t, end)
	check(t, "Consume", end.Consume(2, 3), link.OK)
}

func TestConsumeRange(t *testing.T) {
	end := newEnd(t, 0, 20)
	checkFeed(t, end, head(2, "")+piece(2, "abc"), link.OK, begun(2), bytes(2, "abc"))
	for _, n := range []int{math.MinInt, -3, -1, 0} {
		check(t, "Consume", end.Consume(2, n), link.ErrRange)
		check(t, "Consume", end.Consume(7, n), link.ErrRange)
	}
	checkDrain(t, end)
	checkFeed(t, end, "\x08", link.ErrKind)
	check(t, "Consume", end.Consume(2, 0), link.ErrDown)
	check(t, "Consume", end.Consume(2, 1), link.ErrDown)
	check(t, "Consume", end.Consume(7, 1), link.ErrDown)
}

// P11: bytes of a stream that was reset, by either end, were given back.
func TestConsumeBehindReset(t *testing.T) {
	end := newEnd(t, 0, 20)
	checkFeed(t, end, head(2, "")+piece(2, "abc")+head(4, "")+piece(4, "de"), link.OK, begun(2), bytes(2, "abc"), begun(4), bytes(4, "de"))
	check(t, "Reset", end.Reset(2, 1), link.OK)
	checkFeed(t, end, reset(4, 1), link.OK, wasReset(4, 1))
	checkDrain(t, end, reset(2, 1), credit(0, 3), credit(0, 2))
	check(t, "Consume", end.Consume(2, 1), link.ErrNone)
	check(t, "Consume", end.Consume(4, 1), link.ErrNone)
	checkFeed(t, end, piece(2, "f"), link.OK)
	check(t, "Consume", end.Consume(2, 1), link.ErrNone)
	checkDrain(t, end, credit(0, 1))
}

// P11: what is consumed is credit again, for the stream and for all; what is refused is not.
func TestConsumeGivesCredit(t *testing.T) {
	end := newEnd(t, 1, 10)
	fill(t, end, 1, 10)
	check(t, "Consume", end.Consume(1, 11), link.ErrNone)
	check(t, "Consume", end.Consume(1, 0), link.ErrRange)
	check(t, "Consume", end.Consume(1, 4), link.OK)
	checkFeed(t, end, piece(1, "abcd"), link.OK, bytes(1, "abcd"))
	fill(t, end, 3, 10)
	check(t, "Consume", end.Consume(3, 3), link.OK)
	fill(t, end, 5, 3)
	checkFeed(t, end, piece(3, "x"), link.ErrFlow)
}

// P11: for a stream that has ended, what is consumed is credit for the others.
func TestConsumeGivesCreditToOthers(t *testing.T) {
	end := newEnd(t, 1, 10)
	checkFeed(t, end, head(1, "")+last(1, letters(10)), link.OK, begun(1), bytes(1, letters(10)), ended(1))
	fill(t, end, 3, 10)
	check(t, "Consume", end.Consume(1, 10), link.OK)
	fill(t, end, 5, 10)
	checkFeed(t, end, head(7, "")+piece(7, "x"), link.ErrFlow, begun(7))
}

// P11: for one stream as much as the window may go in one credit, and more than a byte's worth.
func TestConsumeMuch(t *testing.T) {
	end := newEnd(t, 1, 200)
	fill(t, end, 1, 200)
	check(t, "Consume", end.Consume(1, 201), link.ErrNone)
	check(t, "Consume", end.Consume(1, 200), link.OK)
	checkDrain(t, end, "\x04\x00\x02\xc8\x01", "\x04\x01\x02\xc8\x01")
	fill(t, end, 3, 200)
	checkFeed(t, end, piece(1, letters(16)), link.OK, bytes(1, letters(16)))
}
