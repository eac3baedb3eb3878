package link

// inStream is a stream of the other end of which something can still come, or be consumed.
type inStream struct {
	credit int  // given and not used
	held   int  // bytes that have come and were neither consumed nor given back
	cut    bool // this end has reset it
	ended  bool
}

func (s *inStream) open() bool { return !s.cut && !s.ended }

// inbound is what comes in: the streams of the other end. Those that have ended and of which all bytes are consumed or given back are not kept: their numbers tell.
type inbound struct {
	table   Table
	window  int
	next    int // the stream that must begin next
	credit  int // given for all streams together and not used
	streams map[int]*inStream
}

func newInbound(first, window int) inbound {
	return inbound{newTable(endBound), window, first, 2 * window, map[int]*inStream{}}
}

// begin begins the next stream.
func (in *inbound) begin() *inStream {
	s := &inStream{credit: in.window}
	in.streams[in.next] = s
	in.next += 2
	return s
}

// begun tells whether it is a stream of the other end that has begun.
func (in *inbound) begun(stream int) bool { return hasBegun(stream, in.next) }

// newest is the last stream that has begun, or 0.
func (in *inbound) newest() int { return max(in.next-2, 0) }

// find finds a stream that has begun and has not ended.
func (in *inbound) find(stream int) (*inStream, bool) {
	s, ok := in.streams[stream]
	return s, ok && !s.ended
}

// use uses credit for bytes that have come, if there is as much.
func (in *inbound) use(s *inStream, n int) Errno {
	if n > s.credit || n > in.credit {
		return ErrFlow
	}
	s.credit -= n
	in.credit -= n
	s.held += n
	return OK
}

// giveBack gives credit for all streams for the bytes of one that nobody will consume.
func (in *inbound) giveBack(s *inStream, send func(Frame)) {
	if s.held > 0 {
		in.credit += s.held
		send(numberFrame(kindCredit, 0, s.held))
	}
	s.held = 0
}

// consume gives credit for bytes that were consumed.
func (in *inbound) consume(stream, n int, send func(Frame)) Errno {
	s, ok := in.streams[stream]
	if !ok || s.held < n {
		return ErrNone
	}
	s.held -= n
	in.credit += n
	send(numberFrame(kindCredit, 0, n))
	if !s.ended {
		s.credit += n
		send(numberFrame(kindCredit, stream, n))
	}
	in.forget(stream)
	return OK
}

// end ends a stream.
func (in *inbound) end(stream int) {
	in.streams[stream].ended = true
	in.forget(stream)
}

// forget lets go of a stream of which nothing can come or be consumed any more.
func (in *inbound) forget(stream int) {
	if s := in.streams[stream]; s.ended && s.held == 0 {
		delete(in.streams, stream)
	}
}

// hasBegun tells whether a stream is of the same end as the next one, and ahead of it.
func hasBegun(stream, next int) bool { return stream%2 == next%2 && stream < next }
