package link_test

import (
	"strings"

	"link/link"
)

// What the document's table of kinds says, written out once more: the program must not be its own judge.
var kindTable = [8]struct {
	streamFrom, streamTo int
	lengthFrom, lengthTo int
	number               bool
}{
	{1, 268435455, 0, 64, false},
	{1, 268435455, 1, 16, false},
	{1, 268435455, 0, 16, false},
	{1, 268435455, 1, 4, true},
	{0, 268435455, 1, 4, true},
	{0, 0, 8, 8, false},
	{0, 0, 8, 8, false},
	{0, 0, 1, 4, true},
}

// edgeNumbers are the least and the greatest number of each length on the wire.
var edgeNumbers = []struct {
	n    int
	wire string
}{
	{0, "\x00"},
	{1, "\x01"},
	{127, "\x7f"},
	{128, "\x80\x01"},
	{16383, "\xff\x7f"},
	{16384, "\x80\x80\x01"},
	{2097151, "\xff\xff\x7f"},
	{2097152, "\x80\x80\x80\x01"},
	{268435455, "\xff\xff\xff\x7f"},
}

// isNumberText tells whether a text is just one number on the wire.
func isNumberText(s string) bool {
	if len(s) < 1 || len(s) > 4 {
		return false
	}
	last := len(s) - 1
	for i := 0; i < last; i++ {
		if s[i] < 128 {
			return false
		}
	}
	return s[last] < 128 && (last == 0 || s[last] != 0)
}

// wantPack is what P3 says of Pack's error.
func wantPack(f link.Frame) link.Errno {
	if f.Kind < 0 || f.Kind > 7 {
		return link.ErrKind
	}
	k := kindTable[f.Kind]
	switch n := len(f.Data); {
	case f.Stream < 0 || f.Stream > 268435455:
		return link.ErrNumber
	case f.Stream < k.streamFrom || f.Stream > k.streamTo:
		return link.ErrStream
	case n > 64:
		return link.ErrLarge
	case n < k.lengthFrom || n > k.lengthTo || k.number && !isNumberText(f.Data):
		return link.ErrPayload
	}
	return link.OK
}

// machine is P4, byte by byte: it goes from phase to phase and never looks back.
type machine struct {
	phase   int // 0 kind, 1 stream, 2 length, 3 payload
	kind    int
	stream  int
	value   int // of the number that is under way
	count   int // its bytes
	left    int // bytes of the payload that are still to come
	payload []byte
	frames  []link.Frame
	fault   link.Errno
}

func (m *machine) put(b byte) {
	switch {
	case m.fault != link.OK:
	case m.phase == 0 && b > 7:
		m.fault = link.ErrKind
	case m.phase == 0:
		m.kind, m.phase, m.value, m.count = int(b), 1, 0, 0
	case m.phase == 3:
		m.payload = append(m.payload, b)
		m.left--
		m.finish()
	case m.count == 4 || m.count > 0 && b == 0:
		m.fault = link.ErrNumber
	default:
		m.digit(int(b))
	}
}

func (m *machine) digit(b int) {
	unit := 1
	for range m.count {
		unit *= 128
	}
	m.value += b % 128 * unit
	m.count++
	if b >= 128 {
		return
	}
	n, k := m.value, kindTable[m.kind]
	m.value, m.count = 0, 0
	switch {
	case m.phase == 1 && (n < k.streamFrom || n > k.streamTo):
		m.fault = link.ErrStream
	case m.phase == 1:
		m.stream, m.phase = n, 2
	case n > 64:
		m.fault = link.ErrLarge
	case n < k.lengthFrom || n > k.lengthTo:
		m.fault = link.ErrPayload
	default:
		m.left, m.phase, m.payload = n, 3, nil
		m.finish()
	}
}

func (m *machine) finish() {
	if m.left > 0 {
		return
	}
	if kindTable[m.kind].number && !isNumberText(string(m.payload)) {
		m.fault = link.ErrPayload
		return
	}
	m.frames = append(m.frames, link.Frame{Kind: m.kind, Stream: m.stream, Data: string(m.payload)})
	m.phase = 0
}

// wantRead is what P4 says of a reader to which all of s has come at once.
func wantRead(s string) ([]link.Frame, link.Errno) {
	m := &machine{}
	for i := range len(s) {
		m.put(s[i])
	}
	return m.frames, m.fault
}

// dice gives numbers that look thrown, the same ones each time.
type dice uint64

func (d *dice) below(n int) int {
	*d = *d*6364136223846793005 + 1442695040888963407
	return int(uint64(*d) >> 33 % uint64(n))
}

// frameText throws the bytes of a frame that is right, and now and then bytes that are not.
func (d *dice) frameText() string {
	kind := d.below(8)
	k := kindTable[kind]
	stream := 0
	if k.streamTo > 0 {
		stream = edgeNumbers[1+d.below(8)].n
	}
	data := strings.Repeat("x", k.lengthFrom+d.below(k.lengthTo-k.lengthFrom+1))
	if k.number {
		data = edgeNumbers[d.below(len(edgeNumbers))].wire
	}
	s, _ := link.Pack(link.Frame{Kind: kind, Stream: stream, Data: data})
	if d.below(12) == 0 {
		b := []byte(s)
		b[d.below(len(b))] = byte(d.below(256))
		s = string(b)
	}
	return s
}
