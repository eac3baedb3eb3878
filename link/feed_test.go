package link_test

import (
	"strings"
	"testing"

	"link/link"
)

func TestFeedOrdinary(t *testing.T) {
	end := newEnd(t, 1, 20)
	checkFeed(t, end, head(1, "\x03\x01x\x02")+head(3, "\x08"), link.OK, begun(1, "to", "x", "kind", "text"), begun(3, "to", "x"))
	checkFeed(t, end, piece(3, "abc")+piece(1, "\x00\xff"), link.OK, bytes(3, "abc"), bytes(1, "\x00\xff"))
	checkFeed(t, end, last(3, "d")+last(1, ""), link.OK, bytes(3, "d"), ended(3), ended(1))
	checkFeed(t, end, head(5, "")+last(5, ""), link.OK, begun(5), ended(5))
	checkDrain(t, end)
}

// P14: a head's stream must be the next one of the other end.
func TestHeadStreams(t *testing.T) {
	for side := range 2 {
		first := 2 - side
		for _, stream := range []int{1, 2, 3, 4, 5, 6, 127, 128, 268435455} {
			if stream != first {
				checkFeed(t, newEnd(t, side, 20), head(stream, ""), link.ErrStream)
			}
			if stream != first+2 {
				end := newEnd(t, side, 20)
				checkSubmit(t, end, nil, "", 1+side)
				checkFeed(t, end, head(first, "")+last(first, "")+head(stream, ""), link.ErrStream, begun(first), ended(first))
			}
		}
	}
}

// P14: a stream that is not the next one is told ahead of a block that is none.
func TestHeadErrorsInOrder(t *testing.T) {
	checkFeed(t, newEnd(t, 1, 20), head(3, "\x08"), link.ErrStream)
	checkFeed(t, newEnd(t, 1, 20), head(1, "\x08"), link.ErrBlock)
}

// P14: the block must be one for the table for receiving.
func TestHeadBlocks(t *testing.T) {
	for _, block := range []string{"\x08", "\x01", "\x01\x00", "\x01\x01A\x00", "\x01\x01a\x21", "\x80\x00", "\x00\x80", "\x03\x05text", strings.Repeat("\x00", 7), strings.Repeat("\x00", 64), "\x00\x00\x00\x00\x00\x00\xff"} {
		end := newEnd(t, 1, 20)
		checkFeed(t, end, head(1, block), link.ErrBlock)
		checkDrain(t, end, bye(0))
	}
	end := newEnd(t, 1, 20)
	six := make([]string, 12)
	for i := range 6 {
		six[2*i] = "to"
	}
	checkFeed(t, end, head(1, strings.Repeat("\x00", 6))+head(3, strings.Repeat("\x02\x04", 3)), link.OK, begun(1, six...), begun(3, "kind", "text", "kind", "call", "kind", "text", "kind", "call", "kind", "text", "kind", "call"))
	checkFeed(t, end, head(5, write("a", strings.Repeat("v", 32))+write("b", strings.Repeat("w", 24))), link.OK, begun(5, "a", strings.Repeat("v", 32), "b", strings.Repeat("w", 24)))
}

// P14: the table for receiving has the bound 100, and is not the one for sending.
func TestHeadTable(t *testing.T) {
	end := newEnd(t, 1, 20)
	long := strings.Repeat("v", 32)
	checkSubmit(t, end, pairs("own", "1"), "", 2)
	checkFeed(t, end, head(1, write("a", long))+head(3, write("b", long))+head(5, write("cd", strings.Repeat("v", 20))), link.OK, begun(1, "a", long), begun(3, "b", long), begun(5, "cd", strings.Repeat("v", 20)))
	checkFeed(t, end, head(7, "\x0c"), link.OK, begun(7, "a", long))
	checkFeed(t, end, head(9, write("e", "")), link.OK, begun(9, "e", ""))
	checkFeed(t, end, head(11, "\x0c"), link.OK, begun(11, "b", long))
	checkFeed(t, end, head(13, "\x0e"), link.ErrBlock)
	checkDrain(t, end, head(2, write("own", "1")), bye(11))
}

// P14: pieces and lasts of streams that are none to receive.
func TestBytesOfNoStream(t *testing.T) {
	for _, stream := range []int{1, 3, 4, 6, 8, 9, 268435454} {
		for kind := 1; kind <= 2; kind++ {
			end := newEnd(t, 0, 20)
			checkSubmit(t, end, nil, "abc", 1)
			checkFeed(t, end, head(2, "")+head(4, "")+last(4, "x")+head(6, "")+reset(6, 1), link.OK, begun(2), begun(4), bytes(4, "x"), ended(4), begun(6), wasReset(6, 1))
			checkFeed(t, end, frame(kind, stream, "y"), link.ErrStream)
		}
	}
	for kind := 1; kind <= 2; kind++ {
		checkFeed(t, newEnd(t, 1, 20), frame(kind, 1, "y"), link.ErrStream)
		checkFeed(t, newEnd(t, 0, 20), frame(kind, 2, letters(16)), link.ErrStream)
	}
	consumed := newEnd(t, 0, 20)
	checkFeed(t, consumed, head(2, "")+last(2, "x"), link.OK, begun(2), bytes(2, "x"), ended(2))
	check(t, "Consume", consumed.Consume(2, 1), link.OK)
	checkFeed(t, consumed, last(2, ""), link.ErrStream)
}

// P14: the credit of a stream, used up to its last byte, and one byte beyond.
func TestBytesWithinCredit(t *testing.T) {
	for kind := 1; kind <= 2; kind++ {
		for window := 1; window <= 16; window++ {
			over := newEnd(t, 1, window)
			checkFeed(t, over, head(1, "")+piece(1, letters(window)), link.OK, begun(1), bytes(1, letters(window)))
			checkFeed(t, over, frame(kind, 1, "x"), link.ErrFlow)
			checkDrain(t, over, bye(1))
			if window < 16 {
				checkFeed(t, newEnd(t, 1, window), head(1, "")+frame(kind, 1, letters(window+1)), link.ErrFlow, begun(1))
			}
		}
	}
	end := newEnd(t, 1, 5)
	fill(t, end, 1, 5)
	checkFeed(t, end, last(1, ""), link.OK, ended(1))
}

// P14: the credit of all streams, though that of the stream is not used up.
func TestBytesWithinCreditOfAll(t *testing.T) {
	end := newEnd(t, 1, 10)
	fill(t, end, 1, 9)
	fill(t, end, 3, 8)
	fill(t, end, 5, 3)
	checkFeed(t, end, last(5, "")+last(3, ""), link.OK, ended(5), ended(3))
	checkFeed(t, end, piece(1, "x"), link.ErrFlow)
	checkDrain(t, end, bye(5))
}

// P14: credit for an own stream comes to MaxCredit, and one above.
func TestCreditForStream(t *testing.T) {
	for side := range 2 {
		for _, window := range []int{1, 20, 200} {
			own := 1 + side
			end := newEnd(t, side, window)
			checkSubmit(t, end, nil, letters(300), own)
			checkFeed(t, end, credit(own, 100000-window-1)+credit(own, 1), link.OK)
			checkFeed(t, end, credit(own, 1), link.ErrFlow)

			once := newEnd(t, side, window)
			checkSubmit(t, once, nil, letters(300), own)
			checkFeed(t, once, credit(own, 100000-window), link.OK)
			once.Drain(2)
			checkFeed(t, once, credit(own, min(2*window, 16)), link.OK)
			checkFeed(t, once, credit(own, 1), link.ErrFlow)

			above := newEnd(t, side, window)
			checkSubmit(t, above, nil, letters(300), own)
			checkFeed(t, above, credit(own, 100000-window+1), link.ErrFlow)
		}
	}
}

// P14: and for all streams.
func TestCreditForAll(t *testing.T) {
	for _, window := range []int{1, 20, 200} {
		end := newEnd(t, 0, window)
		checkFeed(t, end, credit(0, 100000-2*window), link.OK)
		checkSubmit(t, end, nil, "x", 1)
		checkDrain(t, end, head(1, ""), last(1, "x"))
		checkFeed(t, end, credit(0, 1), link.OK)
		checkFeed(t, end, credit(0, 1), link.ErrFlow)
		checkFeed(t, newEnd(t, 0, window), credit(0, 100001-2*window), link.ErrFlow)
		checkFeed(t, newEnd(t, 0, window), credit(0, 268435455), link.ErrFlow)
	}
}

func TestCreditOfNothing(t *testing.T) {
	checkFeed(t, newEnd(t, 0, 20), credit(0, 0), link.ErrFlow)
	end := newEnd(t, 0, 20)
	checkSubmit(t, end, nil, "abc", 1)
	checkFeed(t, end, credit(1, 0), link.ErrFlow)
}

// P14: credit for an own stream that is finished or reset is nothing, whatever it is.
func TestCreditForFinished(t *testing.T) {
	end := newEnd(t, 1, 20)
	checkSubmit(t, end, nil, "", 2)
	checkDrain(t, end, head(2, ""), last(2, ""))
	checkSubmit(t, end, nil, "abc", 4)
	check(t, "Reset", end.Reset(4, 0), link.OK)
	checkSubmit(t, end, nil, "abc", 6)
	checkFeed(t, end, reset(6, 0), link.OK, wasReset(6, 0))
	for _, stream := range []int{2, 4, 6} {
		checkFeed(t, end, credit(stream, 0)+credit(stream, 1)+credit(stream, 100001)+credit(stream, 268435455), link.OK)
	}
	checkDrain(t, end, head(4, ""), reset(4, 0), head(6, ""))
}

// P14: credit for a stream that is not this end's, or has not begun.
func TestCreditForNoStream(t *testing.T) {
	for _, stream := range []int{2, 3, 4, 5, 6, 268435454, 268435455} {
		for _, n := range []int{0, 1, 268435455} {
			end := newEnd(t, 0, 20)
			checkSubmit(t, end, nil, "abc", 1)
			checkFeed(t, end, head(2, "")+head(4, "")+last(4, "")+credit(stream, n), link.ErrStream, begun(2), begun(4), ended(4))
		}
	}
}

// P4, P14: bytes that come in pieces of any length.
func TestFeedInPieces(t *testing.T) {
	all := head(1, write("a", "1")) + piece(1, "hello") + ping("12345678") + pong("abcdefgh") + head(3, "\x08") + last(3, "") + bye(300) + reset(1, 300) + credit(0, 300) + head(5, "") + piece(3, "x")
	want := []link.Event{begun(1, "a", "1"), bytes(1, "hello"), ponged("abcdefgh"), begun(3, "a", "1"), ended(3), byeCame(300), wasReset(1, 300), begun(5)}
	sent := pong("12345678") + credit(0, 5) + bye(5)
	for i := range len(all) + 1 {
		for j := i; j <= len(all); j++ {
			checkFeedAll(t, []string{all[:i], all[i:j], "", all[j:]}, want, sent)
		}
	}
	checkFeedAll(t, oneByOne(all), want, sent)
}

// checkFeedAll feeds pieces to a new end, the last of which brings it down.
func checkFeedAll(t *testing.T, pieces []string, want []link.Event, sent string) {
	t.Helper()
	end := newEnd(t, 1, 20)
	var got []link.Event
	e := link.OK
	for _, p := range pieces {
		var l []link.Event
		l, e = end.Feed(p)
		got = append(got, l...)
	}
	if showEvents(got) != showEvents(want) || e != link.ErrStream {
		t.Fatalf("Feed %q: %s %d, want %s", pieces, showEvents(got), e, showEvents(want))
	}
	checkDrain(t, end, sent)
}

// An event is told by the Feed that brings the last byte of its frame.
func TestFeedTellsWithTheLastByte(t *testing.T) {
	end := newEnd(t, 1, 20)
	for _, s := range []string{head(1, write("name", "value")), piece(1, "abc"), last(1, ""), pong("12345678"), bye(128)} {
		for i, p := range oneByOne(s) {
			l, e := end.Feed(p)
			if e != link.OK || len(l) != (i+1)/len(s) {
				t.Fatalf("byte %d of %q: %s %d", i, s, showEvents(l), e)
			}
		}
		checkFeed(t, end, "", link.OK)
	}
}
