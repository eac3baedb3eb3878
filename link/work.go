package link

// What an event tells.
const (
	eventBegun = iota + 1
	eventBytes
	eventEnded
	eventReset
	eventPong
	eventBye
)

// work is what an end does with a frame.
type work func(e *End, f Frame, tell func(Event)) Errno

// workOf finds the work that a kind asks for (P14).
func workOf(kind int) work {
	return [kinds]work{
		kindHead:   (*End).gotHead,
		kindPiece:  (*End).gotPiece,
		kindLast:   (*End).gotLast,
		kindReset:  (*End).gotReset,
		kindCredit: (*End).gotCredit,
		kindPing:   (*End).gotPing,
		kindPong:   (*End).gotPong,
		kindBye:    (*End).gotBye,
	}[kind]
}

// gotHead begins a stream, even one that is reset at once: the tables of both ends must stay alike, and the next one must be known.
func (e *End) gotHead(f Frame, tell func(Event)) Errno {
	if f.Stream != e.in.next {
		return ErrStream
	}
	l, err, _ := e.in.table.Expand(f.Data)
	if err != OK {
		return ErrBlock
	}
	s := e.in.begin()
	if e.byeSent {
		e.cut(f.Stream, s, 0)
	} else {
		tell(Event{Kind: eventBegun, Stream: f.Stream, Headers: l})
	}
	return OK
}

func (e *End) gotPiece(f Frame, tell func(Event)) Errno {
	s, ok := e.in.find(f.Stream)
	if !ok {
		return ErrStream
	}
	if err := e.in.use(s, len(f.Data)); err != OK {
		return err
	}
	if s.cut {
		e.in.giveBack(s, e.row.put)
	} else if f.Data != "" {
		tell(Event{Kind: eventBytes, Stream: f.Stream, Text: f.Data})
	}
	return OK
}

// gotLast is a piece that may be empty, and ends the stream.
func (e *End) gotLast(f Frame, tell func(Event)) Errno {
	if err := e.gotPiece(f, tell); err != OK {
		return err
	}
	if s, _ := e.in.find(f.Stream); s.open() {
		tell(Event{Kind: eventEnded, Stream: f.Stream})
	}
	e.in.end(f.Stream)
	return OK
}

func (e *End) gotReset(f Frame, tell func(Event)) Errno {
	told := Event{Kind: eventReset, Stream: f.Stream, N: f.number()}
	if e.out.drop(f.Stream) {
		tell(told)
		return OK
	}
	if s, ok := e.in.find(f.Stream); ok {
		if s.open() {
			tell(told)
		}
		e.in.giveBack(s, e.row.put)
		e.in.end(f.Stream)
		return OK
	}
	if e.out.begun(f.Stream) || e.in.begun(f.Stream) {
		return OK
	}
	return ErrStream
}

func (e *End) gotCredit(f Frame, _ func(Event)) Errno {
	if f.Stream == 0 {
		return raise(&e.out.credit, f.number())
	}
	if s, ok := e.out.find(f.Stream); ok {
		return raise(&s.credit, f.number())
	}
	if e.out.begun(f.Stream) {
		return OK
	}
	return ErrStream
}

func (e *End) gotPing(f Frame, _ func(Event)) Errno {
	e.row.put(Frame{kindPong, 0, f.Data})
	return OK
}

func (e *End) gotPong(f Frame, tell func(Event)) Errno {
	tell(Event{Kind: eventPong, Text: f.Data})
	return OK
}

func (e *End) gotBye(f Frame, tell func(Event)) Errno {
	e.byeCame = true
	tell(Event{Kind: eventBye, N: f.number()})
	return OK
}
