package link_test

import (
	"slices"
	"strings"

	"link/link"
)

// tableModel is P5 to P7, told in another way: one list of all entries, the first four among them, and weights that are added up anew each time.
type tableModel struct {
	bound   int
	entries []link.Header
}

func newTableModel(bound int) *tableModel {
	return &tableModel{bound, []link.Header{{Name: "to"}, {Name: "kind", Value: "text"}, {Name: "kind", Value: "call"}, {Name: "urgent", Value: "no"}}}
}

func (m *tableModel) put(h link.Header) {
	m.entries = slices.Insert(slices.Clone(m.entries), 4, h)
	for {
		sum := 0
		for _, x := range m.entries[4:] {
			sum += len(x.Name) + len(x.Value) + 4
		}
		if sum <= m.bound {
			return
		}
		m.entries = m.entries[:len(m.entries)-1]
	}
}

func isName(s string) bool {
	return len(s) >= 1 && len(s) <= 16 && strings.Trim(s, "abcdefghijklmnopqrstuvwxyz-") == "" && !strings.ContainsFunc(s, func(r rune) bool { return r != '-' && (r < 'a' || r > 'z') })
}

func isValue(s string) bool {
	return len(s) <= 32 && !strings.ContainsFunc(s, func(r rune) bool { return r < ' ' || r > '~' })
}

// squeeze is P6. (No entry has a number above 43, and no length is above 32: each number is one byte.)
func (m *tableModel) squeeze(l []link.Header) (string, link.Errno, int) {
	if len(l) > 6 {
		return "", link.ErrMany, 0
	}
	for i, h := range l {
		if !isName(h.Name) || !isValue(h.Value) {
			return "", link.ErrHeader, i
		}
	}
	var s strings.Builder
	for _, h := range l {
		if i := slices.Index(m.entries, h); i >= 0 {
			s.WriteByte(byte(2 * i))
			continue
		}
		i := slices.IndexFunc(m.entries, func(x link.Header) bool { return x.Name == h.Name })
		s.WriteByte(byte(2*i + 3))
		if i < 0 {
			s.WriteByte(byte(len(h.Name)))
			s.WriteString(h.Name)
		}
		s.WriteByte(byte(len(h.Value)))
		s.WriteString(h.Value)
		m.put(h)
	}
	return s.String(), link.OK, 0
}

// blockMachine is P7, byte by byte: it goes from phase to phase and never looks back.
type blockMachine struct {
	tableModel
	phase   int // 0 between parts, 1 a part's number, 2 a name's length, 3 a name, 4 a value's length, 5 a value
	value   int // of the number that is under way
	count   int // its bytes
	left    int // bytes of the name or the value that are still to come
	name    []byte
	text    []byte
	headers []link.Header
	fault   link.Errno
}

func (m *blockMachine) step(b byte) {
	if m.phase == 0 && len(m.headers) == 6 {
		m.fault = link.ErrMany
		return
	}
	switch m.phase {
	case 3:
		m.name = append(m.name, b)
		m.letter(isName(string(b)), 4)
	case 5:
		m.text = append(m.text, b)
		m.letter(b >= 32 && b <= 126, 0)
	default:
		m.phase = max(m.phase, 1)
		m.digit(int(b))
	}
}

func (m *blockMachine) letter(right bool, next int) {
	if !right {
		m.fault = link.ErrBlock
		return
	}
	m.left--
	if m.left > 0 {
		return
	}
	m.phase = next
	if next == 0 {
		m.finish()
	}
}

func (m *blockMachine) digit(b int) {
	if m.count == 4 || m.count > 0 && b == 0 {
		m.fault = link.ErrBlock
		return
	}
	m.value += b % 128 * []int{1, 128, 16384, 2097152}[m.count]
	m.count++
	if b >= 128 {
		return
	}
	n := m.value
	m.value, m.count = 0, 0
	switch m.phase {
	case 1:
		m.part(n)
	case 2:
		m.length(n, 1, 16)
	case 4:
		m.length(n, 0, 32)
	}
}

func (m *blockMachine) part(n int) {
	m.name, m.text = nil, nil
	switch {
	case n == 1:
		m.phase = 2
	case n%2 == 0 && n/2 < len(m.entries):
		m.headers = append(m.headers, m.entries[n/2])
		m.phase = 0
	case n%2 == 1 && n/2-1 < len(m.entries):
		m.name = []byte(m.entries[n/2-1].Name)
		m.phase = 4
	default:
		m.fault = link.ErrBlock
	}
}

func (m *blockMachine) length(n, least, most int) {
	if n < least || n > most {
		m.fault = link.ErrBlock
		return
	}
	m.left = n
	m.phase++
	if n == 0 {
		m.finish()
	}
}

func (m *blockMachine) finish() {
	h := link.Header{Name: string(m.name), Value: string(m.text)}
	m.headers = append(m.headers, h)
	m.put(h)
	m.phase = 0
}

// expand is P7.
func (m *tableModel) expand(block string) ([]link.Header, link.Errno, int) {
	b := &blockMachine{tableModel: *m}
	for i := range len(block) {
		b.step(block[i])
		if b.fault != link.OK {
			return nil, b.fault, i
		}
	}
	if b.phase != 0 {
		return nil, link.ErrBlock, len(block)
	}
	*m = b.tableModel
	return b.headers, link.OK, 0
}

// header throws a header: of few names and values, so that entries are met again, and now and then of the greatest length.
func (d *dice) header() link.Header {
	names := []string{"to", "kind", "urgent", "a", "b", "c-d", "-", strings.Repeat("n", 16)}
	values := []string{"", "no", "text", "call", "1", "2", " ~", strings.Repeat("v", 32), strings.Repeat("w", 9)}
	return link.Header{Name: names[d.below(len(names))], Value: values[d.below(len(values))]}
}

// spoiltHeader throws a header that is none.
func (d *dice) spoiltHeader() link.Header {
	spoilt := []link.Header{{Name: ""}, {Name: "A"}, {Name: "a "}, {Name: strings.Repeat("n", 17)}, {Name: "a", Value: "\n"}, {Name: "a", Value: "\x7f"}, {Name: "a", Value: strings.Repeat("v", 33)}, {Name: "\xff"}}
	return spoilt[d.below(len(spoilt))]
}

func (d *dice) headerList() []link.Header {
	l := make([]link.Header, d.below(7+d.below(2)))
	for i := range l {
		l[i] = d.header()
	}
	if len(l) > 0 && d.below(8) == 0 {
		l[d.below(len(l))] = d.spoiltHeader()
	}
	return l
}

// blockText throws the bytes of a block, right ones more often than not.
func (d *dice) blockText() string {
	s := ""
	for range d.below(6 + d.below(3)) {
		h := d.header()
		switch d.below(4) {
		case 0:
			s += string([]byte{byte(2 * d.below(4+d.below(9)))})
		case 1:
			s += string([]byte{byte(3 + 2*d.below(4+d.below(9))), byte(len(h.Value))}) + h.Value
		default:
			s += "\x01" + string([]byte{byte(len(h.Name))}) + h.Name + string([]byte{byte(len(h.Value))}) + h.Value
		}
	}
	b := []byte(s)
	if len(b) > 0 && d.below(6) == 0 {
		b[d.below(len(b))] = byte(d.below(256))
	}
	if d.below(6) == 0 {
		b = b[:d.below(len(b)+1)]
	}
	return string(b)
}
