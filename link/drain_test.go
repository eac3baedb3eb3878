package link_test

import (
	"math"
	"testing"

	"link/link"
)

// P10: at most so many frames, and nothing if most is below 1.
func TestDrainMost(t *testing.T) {
	end := newEnd(t, 0, 200)
	check(t, "Ping", end.Ping("12345678"), link.OK)
	checkSubmit(t, end, nil, letters(40), 1)
	for _, most := range []int{math.MinInt, -1, 0} {
		checkDrainMost(t, end, most)
	}
	checkDrainMost(t, end, 1, ping("12345678"))
	checkDrainMost(t, end, 2, head(1, ""), piece(1, letters(16)))
	checkDrainMost(t, end, 1, piece(1, letters(32)[16:]))
	checkDrainMost(t, end, 0)
	checkDrainMost(t, end, math.MaxInt, last(1, letters(40)[32:]))
	checkDrainMost(t, end, math.MaxInt)
}

// P10: what waits in the row goes first, in its order, even ahead of bodies that are under way.
func TestDrainRowFirst(t *testing.T) {
	end := newEnd(t, 0, 200)
	checkSubmit(t, end, nil, letters(40), 1)
	checkDrainMost(t, end, 2, head(1, ""), piece(1, letters(16)))
	checkFeed(t, end, ping("abcdefgh")+head(2, "")+piece(2, "xyz"), link.OK, begun(2), bytes(2, "xyz"))
	check(t, "Consume", end.Consume(2, 2), link.OK)
	checkSubmit(t, end, nil, "b", 3)
	check(t, "Ping", end.Ping("12345678"), link.OK)
	check(t, "Reset", end.Reset(2, 5), link.OK)
	check(t, "Bye", end.Bye(), link.OK)
	checkDrainMost(t, end, 3, pong("abcdefgh"), credit(0, 2), credit(2, 2))
	checkDrain(t, end, head(3, ""), ping("12345678"), reset(2, 5), credit(0, 1), bye(2), last(3, "b"), piece(1, letters(32)[16:]), last(1, letters(40)[32:]))
}

// P10: how bodies of each length are cut.
func TestDrainCutsBodies(t *testing.T) {
	for n := 0; n <= 200; n++ {
		end, body := newEnd(t, 1, 200), letters(n)
		checkSubmit(t, end, nil, body, 2)
		want := []string{head(2, "")}
		for len(body) > 16 {
			want = append(want, piece(2, body[:16]))
			body = body[16:]
		}
		checkDrain(t, end, append(want, last(2, body))...)
	}
}

// P10: the lowest above the one that sent last, or the lowest; from drain to drain.
func TestDrainTurns(t *testing.T) {
	for most := 1; most < 12; most++ {
		end := newEnd(t, 0, 200)
		for i := range 4 {
			checkSubmit(t, end, nil, letters(16+16*(3-i)), 2*i+1)
		}
		got := ""
		for s := end.Drain(most); s != ""; s = end.Drain(most) {
			got += s
		}
		b := letters(64)
		want := head(1, "") + head(3, "") + head(5, "") + head(7, "") +
			piece(1, b[:16]) + piece(3, b[:16]) + piece(5, b[:16]) + last(7, b[:16]) +
			piece(1, b[16:32]) + piece(3, b[16:32]) + last(5, b[16:32]) +
			piece(1, b[32:48]) + last(3, b[32:48]) + last(1, b[48:])
		if got != want {
			t.Fatalf("by %d: %q, want %q", most, got, want)
		}
	}
}

// P10: the turn is that of the stream that sent last, though it is finished or reset since, and though others began.
func TestDrainTurnGoesOn(t *testing.T) {
	end := newEnd(t, 0, 200)
	for i := range 4 {
		checkSubmit(t, end, nil, letters(40), 2*i+1)
	}
	checkDrainMost(t, end, 6, head(1, ""), head(3, ""), head(5, ""), head(7, ""), piece(1, letters(16)), piece(3, letters(16)))
	check(t, "Reset", end.Reset(3, 0), link.OK)
	checkSubmit(t, end, nil, "new", 9)
	checkDrainMost(t, end, 3, reset(3, 0), head(9, ""), piece(5, letters(16)))
	checkFeed(t, end, reset(5, 0)+reset(7, 0), link.OK, wasReset(5, 0), wasReset(7, 0))
	checkDrainMost(t, end, 1, last(9, "new"))
	checkSubmit(t, end, nil, "", 11)
	checkDrain(t, end, head(11, ""), last(11, ""), piece(1, letters(32)[16:]), last(1, letters(40)[32:]))
}

// P10: a stream that has used up its credit waits; the others go on.
func TestDrainStreamCredit(t *testing.T) {
	end := newEnd(t, 0, 20)
	checkSubmit(t, end, nil, letters(60), 1)
	checkSubmit(t, end, nil, letters(10), 3)
	checkDrain(t, end, head(1, ""), head(3, ""), piece(1, letters(16)), last(3, letters(10)), piece(1, letters(20)[16:]))
	checkFeed(t, end, credit(0, 100), link.OK)
	checkDrain(t, end)
	checkFeed(t, end, credit(1, 1), link.OK)
	checkDrain(t, end, piece(1, letters(21)[20:]))
	checkFeed(t, end, credit(1, 38), link.OK)
	checkDrain(t, end, piece(1, letters(37)[21:]), piece(1, letters(53)[37:]), piece(1, letters(59)[53:]))
	checkFeed(t, end, credit(1, 1), link.OK)
	checkDrain(t, end, last(1, letters(60)[59:]))
	checkDrain(t, end)
}

// P10: the credit for all streams together holds each of them up.
func TestDrainCreditOfAll(t *testing.T) {
	end := newEnd(t, 0, 10)
	checkSubmit(t, end, nil, letters(10), 1)
	checkSubmit(t, end, nil, letters(9), 3)
	checkSubmit(t, end, nil, letters(4), 5)
	checkSubmit(t, end, nil, "", 7)
	checkDrain(t, end, head(1, ""), head(3, ""), head(5, ""), head(7, ""), last(1, letters(10)), last(3, letters(9)), piece(5, "a"), last(7, ""))
	checkDrain(t, end)
	checkFeed(t, end, credit(5, 50), link.OK)
	checkDrain(t, end)
	checkFeed(t, end, credit(0, 2), link.OK)
	checkDrain(t, end, piece(5, "bc"))
	checkFeed(t, end, credit(0, 2), link.OK)
	checkDrain(t, end, last(5, "d"))
	checkSubmit(t, end, nil, "xyz", 9)
	checkDrain(t, end, head(9, ""), piece(9, "x"))
}

// P10: an empty body needs no credit, of the stream or of all.
func TestDrainEmptyBodyWithoutCredit(t *testing.T) {
	end := newEnd(t, 1, 1)
	checkSubmit(t, end, nil, "x", 2)
	checkSubmit(t, end, nil, "x", 4)
	checkSubmit(t, end, nil, "x", 6)
	checkSubmit(t, end, nil, "", 8)
	checkDrain(t, end, head(2, ""), head(4, ""), head(6, ""), head(8, ""), last(2, "x"), last(4, "x"), last(8, ""))
	checkFeed(t, end, credit(0, 1), link.OK)
	checkDrain(t, end, last(6, "x"))
}

// P10: credit that comes between frames is used at once: bodies are cut when they are drained.
func TestDrainCutsWhenDrained(t *testing.T) {
	end := newEnd(t, 0, 5)
	checkSubmit(t, end, nil, letters(30), 1)
	checkFeed(t, end, credit(1, 7)+credit(0, 1), link.OK)
	checkDrain(t, end, head(1, ""), piece(1, letters(11)))
	checkFeed(t, end, credit(1, 100)+credit(0, 100), link.OK)
	checkDrainMost(t, end, 1, piece(1, letters(27)[11:]))
	checkDrain(t, end, last(1, letters(30)[27:]))
}
