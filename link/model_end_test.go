package link_test

import "link/link"

// wire writes a number.
func wire(n int) string {
	var b []byte
	for ; n >= 128; n /= 128 {
		b = append(b, byte(n%128+128))
	}
	return string(append(b, byte(n)))
}

// The frames of each kind, written out.
func frame(kind, stream int, data string) string {
	return string([]byte{byte(kind)}) + wire(stream) + wire(len(data)) + data
}
func head(stream int, block string) string { return frame(0, stream, block) }
func piece(stream int, text string) string { return frame(1, stream, text) }
func last(stream int, text string) string  { return frame(2, stream, text) }
func reset(stream, code int) string        { return frame(3, stream, wire(code)) }
func credit(stream, n int) string          { return frame(4, stream, wire(n)) }
func ping(text string) string              { return frame(5, 0, text) }
func pong(text string) string              { return frame(6, 0, text) }
func bye(n int) string                     { return frame(7, 0, wire(n)) }

// outModel is a stream of an end's own.
type outModel struct {
	left           string // of its body
	credit, used   int
	reset, lastOut bool
}

func (s *outModel) finished() bool { return s.reset || s.lastOut }

// inModel is a stream of the other end.
type inModel struct {
	gave, came, gone int // credit that was given, bytes that have come, and bytes that were consumed or given back
	cut, ended       bool
}

// endModel is P8 to P15, told in another way: every stream is remembered for ever, credits are two sums that only grow, and bytes are worked off one by one.
type endModel struct {
	side, window      int
	reader            machine
	fault             link.Errno
	byeSent, byeCame  bool
	row               []string
	squeezes, expands *tableModel
	out               []*outModel
	in                []*inModel
	sentLast          int
	credit, used      int
	gave, came        int
	events            []link.Event
}

func newEndModel(side, window int) *endModel {
	return &endModel{side: side, window: window, squeezes: newTableModel(100), expands: newTableModel(100), credit: 2 * window, gave: 2 * window}
}

// ownNumber and otherNumber tell the number of the stream that began as number i.
func (m *endModel) ownNumber(i int) int   { return 2*i + 1 + m.side }
func (m *endModel) otherNumber(i int) int { return 2*i + 2 - m.side }

func (m *endModel) ownStream(n int) *outModel {
	for i, s := range m.out {
		if m.ownNumber(i) == n {
			return s
		}
	}
	return nil
}

func (m *endModel) otherStream(n int) *inModel {
	for i, s := range m.in {
		if m.otherNumber(i) == n {
			return s
		}
	}
	return nil
}

func (m *endModel) say(frame string) { m.row = append(m.row, frame) }

func (m *endModel) unfinished() int {
	n := 0
	for _, s := range m.out {
		if !s.finished() {
			n++
		}
	}
	return n
}

func (m *endModel) submit(l []link.Header, body string) (int, link.Errno, int) {
	if m.fault != link.OK {
		return 0, link.ErrDown, 0
	}
	if m.byeSent || m.byeCame {
		return 0, link.ErrBye, 0
	}
	table := *m.squeezes
	block, e, at := table.squeeze(l)
	switch {
	case e != link.OK:
		return 0, e, at
	case len(block) > 64 || len(body) > 300:
		return 0, link.ErrLarge, 0
	case m.unfinished() >= 4:
		return 0, link.ErrFull, 0
	}
	*m.squeezes = table
	m.out = append(m.out, &outModel{left: body, credit: m.window})
	n := m.ownNumber(len(m.out) - 1)
	m.say(head(n, block))
	return n, link.OK, 0
}

func (m *endModel) consume(n, bytes int) link.Errno {
	switch s := m.otherStream(n); {
	case m.fault != link.OK:
		return link.ErrDown
	case bytes < 1:
		return link.ErrRange
	case s == nil || s.came-s.gone < bytes:
		return link.ErrNone
	default:
		s.gone += bytes
		m.gave += bytes
		m.say(credit(0, bytes))
		if !s.ended {
			s.gave += bytes
			m.say(credit(n, bytes))
		}
	}
	return link.OK
}

func (m *endModel) reset(n, code int) link.Errno {
	own, other := m.ownStream(n), m.otherStream(n)
	switch {
	case m.fault != link.OK:
		return link.ErrDown
	case code < 0 || code > 268435455:
		return link.ErrRange
	case own != nil && !own.finished():
		own.reset = true
		m.say(reset(n, code))
	case other != nil && !other.cut && !other.ended:
		other.cut = true
		m.say(reset(n, code))
		m.giveBack(other)
	default:
		return link.ErrNone
	}
	return link.OK
}

func (m *endModel) giveBack(s *inModel) {
	if n := s.came - s.gone; n > 0 {
		s.gone += n
		m.gave += n
		m.say(credit(0, n))
	}
}

func (m *endModel) ping(text string) link.Errno {
	switch {
	case m.fault != link.OK:
		return link.ErrDown
	case len(text) != 8:
		return link.ErrPayload
	}
	m.say(ping(text))
	return link.OK
}

func (m *endModel) bye() link.Errno {
	switch {
	case m.fault != link.OK:
		return link.ErrDown
	case m.byeSent:
		return link.ErrBye
	}
	m.sayBye()
	return link.OK
}

func (m *endModel) sayBye() {
	if m.byeSent {
		return
	}
	m.byeSent = true
	if len(m.in) == 0 {
		m.say(bye(0))
	} else {
		m.say(bye(m.otherNumber(len(m.in) - 1)))
	}
}

func (m *endModel) drain(most int) string {
	s := ""
	for ; most > 0; most-- {
		f := ""
		if len(m.row) > 0 {
			f, m.row = m.row[0], m.row[1:]
		} else if m.fault == link.OK {
			f = m.body()
		}
		if f == "" {
			break
		}
		s += f
	}
	return s
}

// body goes once round the streams, from the one behind that which sent last on.
func (m *endModel) body() string {
	first := 0
	for first < len(m.out) && m.ownNumber(first) <= m.sentLast {
		first++
	}
	for k := range m.out {
		i := (first + k) % len(m.out)
		s := m.out[i]
		n := min(16, len(s.left), s.credit-s.used, m.credit-m.used)
		if s.finished() || s.left != "" && n <= 0 {
			continue
		}
		text := s.left[:n]
		s.left = s.left[n:]
		s.used += n
		m.used += n
		m.sentLast = m.ownNumber(i)
		if s.left == "" {
			s.lastOut = true
			return last(m.ownNumber(i), text)
		}
		return piece(m.ownNumber(i), text)
	}
	return ""
}

func (m *endModel) feed(b string) ([]link.Event, link.Errno) {
	m.events = nil
	for i := 0; i < len(b) && m.fault == link.OK; i++ {
		m.reader.put(b[i])
		e := m.reader.fault
		for _, f := range m.reader.frames {
			e = m.work(f)
		}
		m.reader.frames = nil
		if e != link.OK {
			m.fault = e
			m.sayBye()
		}
	}
	return m.events, m.fault
}

func (m *endModel) tell(kind, stream, n int, l []link.Header, text string) {
	m.events = append(m.events, link.Event{Kind: kind, Stream: stream, N: n, Headers: l, Text: text})
}

// numberOf reads a payload that is a number.
func numberOf(data string) int {
	n := 0
	for i := len(data) - 1; i >= 0; i-- {
		n = n*128 + int(data[i])%128
	}
	return n
}

func (m *endModel) work(f link.Frame) link.Errno {
	switch f.Kind {
	case 0:
		return m.head(f)
	case 1, 2:
		return m.bytes(f)
	case 3:
		return m.gotReset(f.Stream, numberOf(f.Data))
	case 4:
		return m.gotCredit(f.Stream, numberOf(f.Data))
	case 5:
		m.say(pong(f.Data))
	case 6:
		m.tell(5, 0, 0, nil, f.Data)
	case 7:
		m.byeCame = true
		m.tell(6, 0, numberOf(f.Data), nil, "")
	}
	return link.OK
}

func (m *endModel) head(f link.Frame) link.Errno {
	if f.Stream != m.otherNumber(len(m.in)) {
		return link.ErrStream
	}
	l, e, _ := m.expands.expand(f.Data)
	if e != link.OK {
		return link.ErrBlock
	}
	s := &inModel{gave: m.window, cut: m.byeSent}
	m.in = append(m.in, s)
	if m.byeSent {
		m.say(reset(f.Stream, 0))
	} else {
		m.tell(1, f.Stream, 0, l, "")
	}
	return link.OK
}

func (m *endModel) bytes(f link.Frame) link.Errno {
	s, n := m.otherStream(f.Stream), len(f.Data)
	if s == nil || s.ended {
		return link.ErrStream
	}
	if s.came+n > s.gave || m.came+n > m.gave {
		return link.ErrFlow
	}
	s.came += n
	m.came += n
	s.ended = f.Kind == 2
	if s.cut {
		m.giveBack(s)
		return link.OK
	}
	if n > 0 {
		m.tell(2, f.Stream, 0, nil, f.Data)
	}
	if s.ended {
		m.tell(3, f.Stream, 0, nil, "")
	}
	return link.OK
}

func (m *endModel) gotReset(n, code int) link.Errno {
	own, other := m.ownStream(n), m.otherStream(n)
	switch {
	case own == nil && other == nil:
		return link.ErrStream
	case own != nil && !own.finished():
		own.reset = true
		m.tell(4, n, code, nil, "")
	case other != nil && other.cut:
		other.ended = true
	case other != nil && !other.ended:
		other.ended = true
		m.tell(4, n, code, nil, "")
		m.giveBack(other)
	}
	return link.OK
}

func (m *endModel) gotCredit(n, more int) link.Errno {
	given, used := &m.credit, m.used
	if n > 0 {
		s := m.ownStream(n)
		if s == nil {
			return link.ErrStream
		}
		if s.finished() {
			return link.OK
		}
		given, used = &s.credit, s.used
	}
	if more == 0 || *given-used+more > 100000 {
		return link.ErrFlow
	}
	*given += more
	return link.OK
}
