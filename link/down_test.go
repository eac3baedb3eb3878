package link_test

import (
	"testing"

	"link/link"
)

// spoils brings an end of side 1 down to which the stream 1 has come: by each error of a reader, and by frames that are not as they must be.
var spoils = []struct {
	b    string
	want link.Errno
}{
	{"\x08", link.ErrKind},
	{"\x01\x80\x00", link.ErrNumber},
	{"\x00\x80\x80\x80\x80\x01", link.ErrNumber},
	{"\x05\x01", link.ErrStream},
	{"\x01\x01\x41", link.ErrLarge},
	{"\x01\x01\x11", link.ErrPayload},
	{"\x03\x01\x02\x00\x00", link.ErrPayload},
	{head(1, ""), link.ErrStream},
	{head(3, "\x08"), link.ErrBlock},
	{piece(3, "x"), link.ErrStream},
	{last(2, ""), link.ErrStream},
	{piece(1, letters(11)), link.ErrFlow},
	{last(1, letters(11)), link.ErrFlow},
	{reset(3, 1), link.ErrStream},
	{credit(0, 0), link.ErrFlow},
	{credit(0, 100000), link.ErrFlow},
	{credit(1, 1), link.ErrStream},
}

// P15: an end that is down tells what came ahead, sends a bye, and answers its error from then on.
func TestDown(t *testing.T) {
	for _, c := range spoils {
		end := newEnd(t, 1, 10)
		checkSubmit(t, end, nil, letters(20), 2)
		checkDrainMost(t, end, 1, head(2, ""))
		check(t, "Ping", end.Ping("12345678"), link.OK)
		checkFeed(t, end, head(1, "")+piece(1, "x")+ping("abcdefgh")+c.b+head(3, "")+pong("12345678"), c.want, begun(1), bytes(1, "x"))
		checkIsDown(t, end, c.want)
		checkDrainMost(t, end, 1, ping("12345678"))
		checkDrainMost(t, end, 0)
		checkDrain(t, end, pong("abcdefgh"), bye(1))
		checkIsDown(t, end, c.want)
		checkDrain(t, end)
	}
}

// checkIsDown asks for what every call of an end that is down answers.
func checkIsDown(t *testing.T, end *link.End, fault link.Errno) {
	t.Helper()
	checkNoSubmit(t, end, nil, "", link.ErrDown, 0)
	checkNoSubmit(t, end, make([]link.Header, 7), letters(301), link.ErrDown, 0)
	check(t, "Consume", end.Consume(1, 1), link.ErrDown)
	check(t, "Consume", end.Consume(1, 0), link.ErrDown)
	check(t, "Reset", end.Reset(1, 0), link.ErrDown)
	check(t, "Reset", end.Reset(2, -1), link.ErrDown)
	check(t, "Ping", end.Ping("12345678"), link.ErrDown)
	check(t, "Ping", end.Ping(""), link.ErrDown)
	check(t, "Bye", end.Bye(), link.ErrDown)
	for _, b := range []string{"", "\x08", "\x00", ping("12345678"), head(1, ""), head(3, ""), bye(0), credit(0, 50)} {
		checkFeed(t, end, b, fault)
	}
}

// P15: the bye is sent once.
func TestDownBehindBye(t *testing.T) {
	for _, c := range spoils {
		end := newEnd(t, 1, 10)
		checkFeed(t, end, head(1, ""), link.OK, begun(1))
		check(t, "Bye", end.Bye(), link.OK)
		checkFeed(t, end, c.b, c.want)
		checkDrain(t, end, bye(1))
		checkIsDown(t, end, c.want)
		checkDrain(t, end)

		drained := newEnd(t, 1, 10)
		checkFeed(t, drained, head(1, ""), link.OK, begun(1))
		check(t, "Bye", drained.Bye(), link.OK)
		checkDrain(t, drained, bye(1))
		checkFeed(t, drained, c.b, c.want)
		checkDrain(t, drained)
	}
}

// P15: a bye that has come is none that was sent.
func TestDownBehindByeThatCame(t *testing.T) {
	end := newEnd(t, 0, 10)
	checkFeed(t, end, bye(5)+"\x08", link.ErrKind, byeCame(5))
	checkDrain(t, end, bye(0))
}

// P15: no body is sent any more, not even one that needs no credit; heads that wait are.
func TestDownSendsNoBody(t *testing.T) {
	end := newEnd(t, 0, 10)
	checkSubmit(t, end, nil, letters(20), 1)
	checkSubmit(t, end, nil, "", 3)
	checkDrainMost(t, end, 3, head(1, ""), head(3, ""), piece(1, letters(10)))
	checkSubmit(t, end, pairs("a", "1"), "x", 5)
	checkFeed(t, end, credit(1, 50)+"\x09", link.ErrKind)
	checkDrain(t, end, head(5, write("a", "1")), bye(0))
	checkDrain(t, end)
}

// P15: of several errors the one that comes first in the bytes, a frame's or the reader's.
func TestDownByTheFirst(t *testing.T) {
	checkFeed(t, newEnd(t, 1, 10), piece(1, "x")+"\x08", link.ErrStream)
	checkFeed(t, newEnd(t, 1, 10), "\x08"+piece(1, "x"), link.ErrKind)
	checkFeed(t, newEnd(t, 1, 10), credit(0, 0)+piece(1, "x")+"\x08", link.ErrFlow)
	checkFeed(t, newEnd(t, 1, 10), head(1, "")+head(3, "\x08")+head(3, ""), link.ErrBlock, begun(1))
}

// P15: a head that brings the end down has not begun.
func TestDownByAHead(t *testing.T) {
	for side := range 2 {
		first := 2 - side
		none := newEnd(t, side, 10)
		checkFeed(t, none, head(first, "\x08"), link.ErrBlock)
		checkDrain(t, none, bye(0))
		one := newEnd(t, side, 10)
		checkFeed(t, one, head(first, "")+head(first+2, "\x08"), link.ErrBlock, begun(first))
		checkDrain(t, one, bye(first))
	}
}
