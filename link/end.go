package link

import "strings"

const maxWindow = 200

// End is one end of a link. Make it by New. It is down when its reader's fault is not OK: a frame that is not as it must be is a fault of what is read, too.
type End struct {
	Reader
	out              outbound
	in               inbound
	row              row
	byeSent, byeCame bool
}

// New makes an end (P8).
func New(side int, window int) (*End, Errno) {
	if side != 0 && side != 1 || window < 1 || window > maxWindow {
		return nil, ErrRange
	}
	return &End{out: newOutbound(1+side, window), in: newInbound(2-side, window)}, OK
}

// Submit gives a message to be sent (P9).
func (e *End) Submit(l []Header, body string) (int, Errno, int) {
	if e.down() {
		return 0, ErrDown, 0
	}
	if e.byeSent || e.byeCame {
		return 0, ErrBye, 0
	}
	if err, at := askHeaders(l); err != OK {
		return 0, err, at
	}
	stream, err := e.out.begin(l, body, e.row.put)
	return stream, err, 0
}

// Consume tells that bytes were consumed (P11).
func (e *End) Consume(stream int, n int) Errno {
	if e.down() {
		return ErrDown
	}
	if n < 1 {
		return ErrRange
	}
	return e.in.consume(stream, n, e.row.put)
}

// Reset ends a stream (P13).
func (e *End) Reset(stream int, code int) Errno {
	if e.down() {
		return ErrDown
	}
	if !isNumber(code) {
		return ErrRange
	}
	if e.out.drop(stream) {
		e.row.put(numberFrame(kindReset, stream, code))
		return OK
	}
	if s, ok := e.in.find(stream); ok && s.open() {
		e.cut(stream, s, code)
		return OK
	}
	return ErrNone
}

// cut resets an open stream of the other end.
func (e *End) cut(stream int, s *inStream, code int) {
	s.cut = true
	e.row.put(numberFrame(kindReset, stream, code))
	e.in.giveBack(s, e.row.put)
}

// Ping asks for a pong (P12).
func (e *End) Ping(text string) Errno {
	if e.down() {
		return ErrDown
	}
	if len(text) != pingBytes {
		return ErrPayload
	}
	e.row.put(Frame{kindPing, 0, strings.Clone(text)})
	return OK
}

// Bye tells that no more messages are taken (P12).
func (e *End) Bye() Errno {
	if e.down() {
		return ErrDown
	}
	if e.byeSent {
		return ErrBye
	}
	e.sendBye()
	return OK
}

func (e *End) sendBye() {
	e.byeSent = true
	e.row.put(numberFrame(kindBye, 0, e.in.newest()))
}

// Drain tells what is to be sent (P10).
func (e *End) Drain(most int) string {
	var b []byte
	gather := func(f Frame) { b = appendFrame(b, f) }
	for range most {
		if !e.row.take(gather) && !e.out.send(gather) {
			break
		}
	}
	return string(b)
}

// Feed takes bytes, and tells what has happened (P14, P15).
func (e *End) Feed(b string) ([]Event, Errno) {
	if e.down() {
		return nil, e.fault
	}
	var l []Event
	tell := func(v Event) { l = append(l, v) }
	frames, fault := e.Reader.Feed(b)
	for _, f := range frames {
		if err := workOf(f.Kind)(e, f, tell); err != OK {
			fault = err
			break
		}
	}
	if fault != OK {
		e.fall(fault)
	}
	return l, fault
}

func (e *End) down() bool { return e.fault != OK }

// fall brings the end down: what it keeps is what still waits to be sent, and why it is down.
func (e *End) fall(fault Errno) {
	if !e.byeSent {
		e.sendBye()
	}
	*e = End{Reader: Reader{fault: fault}, row: e.row}
}
