package link

import "slices"

const maxBound = 200

// fixed are the entries that never change.
var fixed = [4]Header{{"to", ""}, {"kind", "text"}, {"kind", "call"}, {"urgent", "no"}}

// Table squeezes headers. Make it by NewTable.
type Table struct {
	entries shelf[Header] // those that were put in
}

// NewTable makes a table (P5).
func NewTable(bound int) (*Table, Errno) {
	if bound < 0 || bound > maxBound {
		return nil, ErrRange
	}
	t := newTable(bound)
	return &t, OK
}

// newTable makes a table of a bound that can be.
func newTable(bound int) Table { return Table{newShelf(bound, Header.weight)} }

// Entries tells what was put in (P5).
func (t *Table) Entries() []Header { return slices.Clone(t.entries.kept) }

// Squeeze makes a block (P6).
func (t *Table) Squeeze(l []Header) (string, Errno, int) {
	if e, at := askHeaders(l); e != OK {
		return "", e, at
	}
	return t.squeeze(l), OK, 0
}

// Expand reads a block (P7). The reader puts in to a copy, which becomes the table if all of the block is right.
func (t *Table) Expand(block string) ([]Header, Errno, int) {
	r := blockReader{cursor{text: block}, *t}
	l, e := r.headers()
	if e != OK {
		return nil, e, r.at
	}
	*t = r.table
	return l, OK, 0
}

// squeeze makes a block of headers that are right.
func (t *Table) squeeze(l []Header) string {
	var b []byte
	for _, h := range l {
		b = t.appendPart(b, h)
	}
	return string(b)
}

func (t *Table) appendPart(b []byte, h Header) []byte {
	if i, ok := t.lowest(func(entry Header) bool { return entry == h }); ok {
		return appendNumber(b, 2*i)
	}
	if i, ok := t.lowest(func(entry Header) bool { return entry.Name == h.Name }); ok {
		b = appendNumber(b, 2*(i+1)+1)
	} else {
		b = appendText(appendNumber(b, 1), h.Name)
	}
	t.entries.put(h.clone())
	return appendText(b, h.Value)
}

func appendText(b []byte, s string) []byte {
	return append(appendNumber(b, len(s)), s...)
}

// lowest finds the lowest entry that is as asked.
func (t *Table) lowest(asked func(Header) bool) (int, bool) {
	for i := 0; ; i++ {
		h, ok := t.entry(i)
		if !ok || asked(h) {
			return i, ok
		}
	}
}

// entry tells entry i, if there is one.
func (t *Table) entry(i int) (Header, bool) {
	if i < len(fixed) {
		return fixed[i], true
	}
	if i -= len(fixed); i < len(t.entries.kept) {
		return t.entries.kept[i], true
	}
	return Header{}, false
}
