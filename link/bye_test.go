package link_test

import (
	"strings"
	"testing"

	"link/link"
)

func TestPing(t *testing.T) {
	end := newEnd(t, 0, 20)
	check(t, "Ping", end.Ping("12345678"), link.OK)
	check(t, "Ping", end.Ping("\x00\xff\x80\n    "), link.OK)
	for _, text := range []string{"", "1", "1234567", "123456789", strings.Repeat("x", 1<<20)} {
		check(t, "Ping", end.Ping(text), link.ErrPayload)
	}
	checkDrain(t, end, ping("12345678"), ping("\x00\xff\x80\n    "))
	check(t, "Bye", end.Bye(), link.OK)
	check(t, "Ping", end.Ping("12345678"), link.OK)
	checkDrain(t, end, bye(0), ping("12345678"))
	checkFeed(t, end, "\x08", link.ErrKind)
	check(t, "Ping", end.Ping("12345678"), link.ErrDown)
	check(t, "Ping", end.Ping(""), link.ErrDown)
}

// P14: a ping is answered, a pong is told.
func TestPingAndPongCome(t *testing.T) {
	end := newEnd(t, 1, 20)
	checkFeed(t, end, ping("abcdefgh")+pong("12345678")+ping("\x00\x01\x02\x03\x04\x05\x06\xff"), link.OK, ponged("12345678"))
	checkDrain(t, end, pong("abcdefgh"), pong("\x00\x01\x02\x03\x04\x05\x06\xff"))
}

func TestByeOnce(t *testing.T) {
	end := newEnd(t, 0, 20)
	check(t, "Bye", end.Bye(), link.OK)
	check(t, "Bye", end.Bye(), link.ErrBye)
	checkDrain(t, end, bye(0))
	check(t, "Bye", end.Bye(), link.ErrBye)
	checkDrain(t, end)
	checkFeed(t, end, "\x08", link.ErrKind)
	check(t, "Bye", end.Bye(), link.ErrDown)
	checkDrain(t, end)
}

// P12: a bye names the last stream of the other end that has begun, be it ended or reset.
func TestByeNamesTheLastStream(t *testing.T) {
	for side := range 2 {
		first := 2 - side
		end := newEnd(t, side, 20)
		checkSubmit(t, end, nil, "", 1+side)
		checkFeed(t, end, head(first, "")+last(first, "")+head(first+2, ""), link.OK, begun(first), ended(first), begun(first+2))
		check(t, "Bye", end.Bye(), link.OK)
		checkDrain(t, end, head(1+side, ""), bye(first+2), last(1+side, ""))
	}
	end := newEnd(t, 1, 20)
	checkFeed(t, end, head(1, "")+head(3, "")+reset(3, 4), link.OK, begun(1), begun(3), wasReset(3, 4))
	check(t, "Bye", end.Bye(), link.OK)
	checkDrain(t, end, bye(3))
	many := newEnd(t, 1, 20)
	for i := range 100 {
		checkFeed(t, many, head(2*i+1, ""), link.OK, begun(2*i+1))
	}
	check(t, "Bye", many.Bye(), link.OK)
	checkDrain(t, many, "\x07\x00\x02\xc7\x01")
}

// P12: a bye that has come keeps none from being sent; P14: each that comes is told.
func TestByeBehindBye(t *testing.T) {
	end := newEnd(t, 0, 20)
	checkFeed(t, end, bye(7)+bye(268435455)+bye(0), link.OK, byeCame(7), byeCame(268435455), byeCame(0))
	checkDrain(t, end)
	check(t, "Bye", end.Bye(), link.OK)
	check(t, "Bye", end.Bye(), link.ErrBye)
	checkDrain(t, end, bye(0))
	checkFeed(t, end, bye(1), link.OK, byeCame(1))
}

// P12: streams that have begun go on, in both directions.
func TestByeLetsStreamsGoOn(t *testing.T) {
	end := newEnd(t, 0, 20)
	checkSubmit(t, end, nil, letters(30), 1)
	checkFeed(t, end, head(2, "")+piece(2, "abc"), link.OK, begun(2), bytes(2, "abc"))
	check(t, "Bye", end.Bye(), link.OK)
	checkFeed(t, end, bye(1), link.OK, byeCame(1))
	checkDrain(t, end, head(1, ""), bye(2), piece(1, letters(16)), piece(1, letters(20)[16:]))
	check(t, "Consume", end.Consume(2, 3), link.OK)
	checkFeed(t, end, credit(0, 30)+credit(1, 30)+last(2, "de"), link.OK, bytes(2, "de"), ended(2))
	checkDrain(t, end, credit(0, 3), credit(2, 3), last(1, letters(30)[20:]))
	check(t, "Consume", end.Consume(2, 2), link.OK)
	checkDrain(t, end, credit(0, 2))
}

// P14: heads behind a bye that was sent: the streams begin, are not told, and are reset at once.
func TestHeadsBehindBye(t *testing.T) {
	end := newEnd(t, 1, 20)
	checkFeed(t, end, head(1, write("a", "1"))+piece(1, "x"), link.OK, begun(1, "a", "1"), bytes(1, "x"))
	check(t, "Bye", end.Bye(), link.OK)
	checkFeed(t, end, head(3, "\x08"+write("b", "2"))+piece(3, "abc")+head(5, "\x08\x0a")+last(5, ""), link.OK)
	checkDrain(t, end, bye(1), reset(3, 0), credit(0, 3), reset(5, 0))
	check(t, "Reset", end.Reset(3, 1), link.ErrNone)
	check(t, "Consume", end.Consume(3, 1), link.ErrNone)
	checkFeed(t, end, last(3, "de")+piece(1, "y"), link.OK, bytes(1, "y"))
	checkDrain(t, end, credit(0, 2))
	checkFeed(t, end, head(7, "")+reset(7, 9)+reset(7, 9), link.OK)
	checkDrain(t, end, reset(7, 0))
	checkFeed(t, end, head(7, ""), link.ErrStream)
	checkDrain(t, end)
}

// P14: the table for receiving goes on behind a bye, and a block must still be one.
func TestBlocksBehindBye(t *testing.T) {
	end := newEnd(t, 1, 20)
	check(t, "Bye", end.Bye(), link.OK)
	checkFeed(t, end, head(1, write("a", "1"))+head(3, "\x08"), link.OK)
	checkDrain(t, end, bye(0), reset(1, 0), reset(3, 0))
	checkFeed(t, end, head(5, "\x0a"), link.ErrBlock)
	checkDrain(t, end)
}

// P14: a bye that has come does not stand against heads.
func TestHeadsBehindByeThatCame(t *testing.T) {
	end := newEnd(t, 1, 20)
	checkFeed(t, end, bye(0)+head(1, "")+last(1, "x"), link.OK, byeCame(0), begun(1), bytes(1, "x"), ended(1))
	checkDrain(t, end)
}
