package link

import "strings"

// blockReader takes headers from a block. Where it can't go on, its cursor stands at the place.
type blockReader struct {
	cursor
	table Table
}

// headers takes all parts.
func (r *blockReader) headers() ([]Header, Errno) {
	var l []Header
	for !r.ended() {
		if len(l) == maxHeaders {
			return nil, ErrMany
		}
		h, ok := r.part()
		if !ok {
			return nil, ErrBlock
		}
		l = append(l, h)
	}
	return l, OK
}

// part takes a part: its lowest bit tells whether it is an entry, or a header that is put in.
func (r *blockReader) part() (Header, bool) {
	n, ok := r.number()
	if !ok {
		return Header{}, false
	}
	if n%2 == 0 {
		return r.entry(n / 2)
	}
	h, ok := r.fresh(n / 2)
	if ok {
		r.table.entries.put(h)
	}
	return h, ok
}

// entry tells the entry that the number just taken names.
func (r *blockReader) entry(i int) (Header, bool) {
	h, ok := r.table.entry(i)
	if !ok {
		r.at--
	}
	return h, ok
}

// fresh takes a header that is written out, but for its name if k is above 0.
func (r *blockReader) fresh(k int) (Header, bool) {
	name, ok := r.name(k)
	if !ok {
		return Header{}, false
	}
	value, ok := r.written(valueRule())
	return Header{name, value}, ok
}

func (r *blockReader) name(k int) (string, bool) {
	if k == 0 {
		return r.written(nameRule())
	}
	h, ok := r.entry(k - 1)
	return h.Name, ok
}

// written takes a length and as many bytes. They are cloned, as the block is not the program's to keep.
func (r *blockReader) written(asked rule) (string, bool) {
	length, ok := r.number()
	if !ok {
		return "", false
	}
	if !asked.length.holds(length) {
		r.at--
		return "", false
	}
	begin := r.at
	for range length {
		if b, ok := r.one(); !ok {
			return "", false
		} else if !asked.allows(b) {
			r.at--
			return "", false
		}
	}
	return strings.Clone(r.text[begin:r.at]), true
}
