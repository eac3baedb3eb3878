package link_test

import (
	"strings"
	"testing"

	"link/link"
)

func TestSubmitOrdinary(t *testing.T) {
	end := newEnd(t, 0, 20)
	checkSubmit(t, end, pairs("to", "x", "kind", "text"), "hello", 1)
	checkSubmit(t, end, nil, "", 3)
	checkSubmit(t, end, pairs("to", "x", "to", "y"), "x", 5)
	checkDrain(t, end, head(1, "\x03\x01x\x02"), head(3, ""), head(5, "\x08\x03\x01y"), last(1, "hello"), last(3, ""), last(5, "x"))
	checkSubmit(t, end, pairs("to", "y", "to", "x"), "", 7)
	checkDrain(t, end, head(7, "\x08\x0a"), last(7, ""))
}

// P9: the table for sending has the bound 100.
func TestSubmitTableBound(t *testing.T) {
	end, table := newEnd(t, 1, 20), newTableModel(100)
	d := dice(3)
	for i := range 500 {
		l, draft := d.headerList(), *table
		block, e, at := draft.squeeze(l)
		if e == link.OK && len(block) > 64 {
			e = link.ErrLarge
		}
		n := 2*i + 2
		if e == link.OK {
			*table = draft
			checkSubmit(t, end, l, "", n)
		} else {
			checkNoSubmit(t, end, l, "", e, at)
			checkSubmit(t, end, nil, "", n)
			block = ""
		}
		checkDrain(t, end, head(n, block), last(n, ""))
	}
}

func TestSubmitHeadersThatAreNone(t *testing.T) {
	end := newEnd(t, 0, 20)
	checkNoSubmit(t, end, pairs("A", "x"), "", link.ErrHeader, 0)
	checkNoSubmit(t, end, pairs("a", "x", "b", "\n"), "", link.ErrHeader, 1)
	checkNoSubmit(t, end, pairs("a", "", "b", "", "c", "", "d", "", "e", "", "", ""), "", link.ErrHeader, 5)
	checkNoSubmit(t, end, pairs("a", "", "b", "", "c", "", "d", "", "e", "", "f", "", "A", ""), "", link.ErrMany, 0)
	checkNoSubmit(t, end, make([]link.Header, 1000), "", link.ErrMany, 0)
	checkDrain(t, end)
	checkSubmit(t, end, pairs("a", "", "b", "", "c", "", "d", "", "e", "", "f", ""), "", 1)
}

// P9: bodies of no byte, of MaxBody and of one more.
func TestSubmitBodies(t *testing.T) {
	end := newEnd(t, 0, 200)
	checkNoSubmit(t, end, nil, letters(301), link.ErrLarge, 0)
	checkNoSubmit(t, end, nil, letters(1<<20), link.ErrLarge, 0)
	checkSubmit(t, end, nil, letters(300), 1)
	checkSubmit(t, end, nil, "", 3)
	checkDrainMost(t, end, 4, head(1, ""), head(3, ""), piece(1, letters(16)), last(3, ""))
}

// blockOf makes headers whose block has so many bytes at first.
func blockOf(n int) []link.Header {
	var l []link.Header
	for _, name := range []string{"a", "b"} {
		value := min(n-4, 32)
		if n-4-value < 4 && n-4-value > 0 {
			value -= 4
		}
		l = append(l, link.Header{Name: name, Value: strings.Repeat("v", value)})
		n -= 4 + value
	}
	return l
}

// P9: a block that just fits into a head, and one that does not. The table is as it was behind the one that does not.
func TestSubmitBlocks(t *testing.T) {
	for n := 60; n <= 64; n++ {
		end, l := newEnd(t, 0, 20), blockOf(n)
		checkSubmit(t, end, l, "", 1)
		want := write("a", l[0].Value) + write("b", l[1].Value)
		if len(want) != n {
			t.Fatalf("the test is wrong: %d bytes, want %d", len(want), n)
		}
		checkDrain(t, end, head(1, want), last(1, ""))
	}
	for n := 65; n <= 72; n++ {
		end := newEnd(t, 0, 20)
		checkNoSubmit(t, end, blockOf(n), "", link.ErrLarge, 0)
		checkDrain(t, end)
		checkSubmit(t, end, pairs("a", "1"), "", 1)
		checkDrain(t, end, head(1, write("a", "1")), last(1, ""))
	}
	squeezed := newEnd(t, 0, 20)
	checkSubmit(t, squeezed, blockOf(64), "", 1)
	checkSubmit(t, squeezed, append(blockOf(64), blockOf(64)...), "", 3)
	checkDrain(t, squeezed, head(1, write("a", blockOf(64)[0].Value)+write("b", blockOf(64)[1].Value)), head(3, "\x0a\x08\x0a\x08"), last(1, ""), last(3, ""))
}

// P9: MaxOwn streams that are not finished, and one more.
func TestSubmitFull(t *testing.T) {
	end := newEnd(t, 1, 20)
	for i := range 4 {
		checkSubmit(t, end, pairs("a", "1"), "", 2*i+2)
	}
	checkNoSubmit(t, end, pairs("b", "2"), "", link.ErrFull, 0)
	checkDrainMost(t, end, 4, head(2, write("a", "1")), head(4, "\x08"), head(6, "\x08"), head(8, "\x08"))
	checkNoSubmit(t, end, pairs("b", "2"), "", link.ErrFull, 0)
	checkDrainMost(t, end, 1, last(2, ""))
	checkSubmit(t, end, pairs("b", "2"), "", 10)
	checkNoSubmit(t, end, pairs("b", "2"), "", link.ErrFull, 0)
	check(t, "Reset", end.Reset(10, 7), link.OK)
	checkSubmit(t, end, pairs("b", "2"), "", 12)
	checkNoSubmit(t, end, nil, "", link.ErrFull, 0)
	checkFeed(t, end, reset(4, 9), link.OK, wasReset(4, 9))
	checkSubmit(t, end, nil, letters(17), 14)
	checkDrain(t, end, head(10, write("b", "2")), reset(10, 7), head(12, "\x08"), head(14, ""), last(6, ""), last(8, ""), last(12, ""), piece(14, letters(16)), last(14, letters(17)[16:]))
	for i := range 4 {
		checkSubmit(t, end, nil, "", 2*i+16)
	}
	checkNoSubmit(t, end, nil, "", link.ErrFull, 0)
}

// A stream whose body is held up by the credit is not finished.
func TestSubmitFullWithoutCredit(t *testing.T) {
	end := newEnd(t, 0, 1)
	for i := range 4 {
		checkSubmit(t, end, nil, "xy", 2*i+1)
	}
	checkDrain(t, end, head(1, ""), head(3, ""), head(5, ""), head(7, ""), piece(1, "x"), piece(3, "x"))
	checkNoSubmit(t, end, nil, "", link.ErrFull, 0)
	checkFeed(t, end, credit(0, 1)+credit(3, 1), link.OK)
	checkNoSubmit(t, end, nil, "", link.ErrFull, 0)
	checkDrain(t, end, piece(5, "x"))
	checkFeed(t, end, credit(0, 1), link.OK)
	checkDrain(t, end, piece(7, "x"))
	checkFeed(t, end, credit(0, 1), link.OK)
	checkDrain(t, end, last(3, "y"))
	checkSubmit(t, end, nil, "", 9)
}

// P9: the last stream that is a number on the wire, of each side.
func TestSubmitLastStream(t *testing.T) {
	for side, most := range []int{268435455, 268435454} {
		end := newEnd(t, side, 20)
		end.SkipTo(most-2, 2-side)
		checkSubmit(t, end, nil, "", most-2)
		checkSubmit(t, end, nil, "x", most)
		checkNoSubmit(t, end, nil, "", link.ErrFull, 0)
		checkDrain(t, end, head(most-2, ""), head(most, ""), last(most-2, ""), last(most, "x"))
		checkNoSubmit(t, end, pairs("a", "1"), "", link.ErrFull, 0)
		checkNoSubmit(t, end, pairs("a", "1"), letters(301), link.ErrLarge, 0)
		checkFeed(t, end, reset(most, 1)+credit(most, 0), link.OK)
	}
}

// P14: behind the last stream that is a number, no other one can begin.
func TestHeadLastStream(t *testing.T) {
	for side, most := range []int{268435454, 268435455} {
		end := newEnd(t, side, 20)
		end.SkipTo(1+side, most)
		checkFeed(t, end, head(most, "")+last(most, "x"), link.OK, begun(most), bytes(most, "x"), ended(most))
		check(t, "Consume", end.Consume(most, 1), link.OK)
		check(t, "Bye", end.Bye(), link.OK)
		checkDrain(t, end, credit(0, 1), bye(most))
		checkFeed(t, end, head(most, ""), link.ErrStream)
	}
}

// P9, P1: which of several errors is answered.
func TestSubmitErrorsInOrder(t *testing.T) {
	spoilt, large := pairs("a", "", "B", ""), append(blockOf(65), pairs("B", "")...)
	full := newEnd(t, 0, 20)
	for i := range 4 {
		checkSubmit(t, full, nil, "", 2*i+1)
	}
	checkNoSubmit(t, full, make([]link.Header, 7), letters(301), link.ErrMany, 0)
	checkNoSubmit(t, full, spoilt, letters(301), link.ErrHeader, 1)
	checkNoSubmit(t, full, large, letters(301), link.ErrHeader, 2)
	checkNoSubmit(t, full, nil, letters(301), link.ErrLarge, 0)
	checkNoSubmit(t, full, blockOf(65), "", link.ErrLarge, 0)
	checkNoSubmit(t, full, nil, "", link.ErrFull, 0)
	check(t, "Bye", full.Bye(), link.OK)
	checkNoSubmit(t, full, spoilt, letters(301), link.ErrBye, 0)
	checkFeed(t, full, "\x08", link.ErrKind)
	checkNoSubmit(t, full, spoilt, letters(301), link.ErrDown, 0)
	checkNoSubmit(t, full, nil, "", link.ErrDown, 0)
}

// P9: an end that has sent or received a bye takes no message.
func TestSubmitBehindBye(t *testing.T) {
	sent := newEnd(t, 0, 20)
	checkSubmit(t, sent, nil, "x", 1)
	check(t, "Bye", sent.Bye(), link.OK)
	checkNoSubmit(t, sent, nil, "", link.ErrBye, 0)
	checkDrain(t, sent, head(1, ""), bye(0), last(1, "x"))
	checkNoSubmit(t, sent, nil, "", link.ErrBye, 0)

	came := newEnd(t, 0, 20)
	checkSubmit(t, came, nil, "x", 1)
	checkFeed(t, came, bye(0), link.OK, byeCame(0))
	checkNoSubmit(t, came, nil, "", link.ErrBye, 0)
	checkDrain(t, came, head(1, ""), last(1, "x"))
}

// P1: a refused message leaves the end as it was: neither its stream nor its table, nor what is to be sent, has changed.
func TestSubmitRefusedChangesNothing(t *testing.T) {
	for _, refused := range []struct {
		l    []link.Header
		body string
	}{
		{pairs("a", "1", "b", "2", "C", ""), ""},
		{pairs("a", "1", "b", "2", "c", "3", "d", "", "e", "", "f", "", "g", ""), ""},
		{pairs("a", "1"), letters(301)},
		{append(pairs("a", "1"), blockOf(65)...), ""},
	} {
		end := newEnd(t, 0, 20)
		if _, e, _ := end.Submit(refused.l, refused.body); e == link.OK {
			t.Fatalf("%q is taken", refused.l)
		}
		checkDrain(t, end)
		checkSubmit(t, end, pairs("a", "1", "b", "2"), "x", 1)
		checkDrain(t, end, head(1, write("a", "1")+write("b", "2")), last(1, "x"))
	}
}
