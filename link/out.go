package link

import (
	"slices"
	"strings"
)

const (
	endBound  = 100 // the bound of an end's tables
	maxBody   = 300
	maxOwn    = 4
	maxCredit = 100000
)

// outStream is a stream of this end's own that is not finished.
type outStream struct {
	number int
	credit int
	body   string // what is left of it
}

// outbound is what goes out: this end's own streams. Those that are finished are not kept: their numbers tell.
type outbound struct {
	table    Table
	window   int
	next     int // the stream of the next message
	sentLast int
	credit   int          // for all streams together
	streams  []*outStream // the lowest first
}

func newOutbound(first, window int) outbound {
	return outbound{table: newTable(endBound), window: window, next: first, credit: 2 * window}
}

// begin gives a message the next stream. Its headers are right. They are squeezed by a copy of the table, which becomes the table if nothing else stands against the message.
func (o *outbound) begin(l []Header, body string, send func(Frame)) (int, Errno) {
	table := o.table
	block := table.squeeze(l)
	if len(block) > maxFrame || len(body) > maxBody {
		return 0, ErrLarge
	}
	if len(o.streams) == maxOwn || !isNumber(o.next) {
		return 0, ErrFull
	}
	s := &outStream{o.next, o.window, strings.Clone(body)}
	o.table = table
	o.streams = append(o.streams, s)
	o.next += 2
	send(Frame{kindHead, s.number, block})
	return s.number, OK
}

// begun tells whether it is a stream of this end's own that has begun.
func (o *outbound) begun(stream int) bool { return hasBegun(stream, o.next) }

// find finds a stream that is not finished.
func (o *outbound) find(stream int) (*outStream, bool) {
	for _, s := range o.streams {
		if s.number == stream {
			return s, true
		}
	}
	return nil, false
}

// drop finishes a stream, if it is one that is not finished.
func (o *outbound) drop(stream int) bool {
	before := len(o.streams)
	o.streams = slices.DeleteFunc(o.streams, func(s *outStream) bool { return s.number == stream })
	return len(o.streams) < before
}

// send sends a frame of a body, if a stream may send.
func (o *outbound) send(gather func(Frame)) bool {
	s, ok := o.nextToSend()
	if !ok {
		return false
	}
	o.sentLast = s.number
	piece := s.body[:o.most(s)]
	s.body = s.body[len(piece):]
	s.credit -= len(piece)
	o.credit -= len(piece)
	kind := kindPiece
	if s.body == "" {
		kind = kindLast
		o.drop(s.number)
	}
	gather(Frame{kind, s.number, piece})
	return true
}

// nextToSend finds the stream whose turn it is: the lowest above the one that sent last, or else the lowest.
func (o *outbound) nextToSend() (*outStream, bool) {
	var lowest *outStream
	for _, s := range o.streams {
		if !o.maySend(s) {
			continue
		}
		if s.number > o.sentLast {
			return s, true
		}
		if lowest == nil {
			lowest = s
		}
	}
	return lowest, lowest != nil
}

// maySend needs no credit for an empty body: its last has no bytes.
func (o *outbound) maySend(s *outStream) bool { return s.body == "" || o.most(s) > 0 }

// most is how many bytes of its body a stream may send in a frame.
func (o *outbound) most(s *outStream) int {
	return min(len(s.body), maxPiece, s.credit, o.credit)
}

// raise adds what the other end gives to a credit.
func raise(credit *int, n int) Errno {
	if n == 0 || *credit+n > maxCredit {
		return ErrFlow
	}
	*credit += n
	return OK
}
