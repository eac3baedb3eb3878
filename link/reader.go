package link

import "strings"

// Reader takes frames from bytes. Make it by NewReader.
type Reader struct {
	cursor // over the bytes of a frame that is not whole yet
	fault  Errno
}

// NewReader makes a reader (P4).
func NewReader() *Reader { return &Reader{} }

// Feed takes bytes, and tells frames (P4).
func (r *Reader) Feed(b string) ([]Frame, Errno) {
	if r.fault != OK {
		return nil, r.fault
	}
	r.text += b
	var l []Frame
	for {
		begin := r.at
		f, e, whole := r.frame()
		if whole {
			l = append(l, f)
			continue
		}
		r.keep(begin, e)
		return l, e
	}
}

// keep lets go of all bytes but those from begin on, and behind a fault of all. They are cloned, as they may be a part of what was handed in.
func (r *Reader) keep(begin int, e Errno) {
	rest := ""
	if e == OK {
		rest = strings.Clone(r.text[begin:])
	}
	r.cursor = cursor{text: rest}
	r.fault = e
}

// frame takes a frame. One that is not whole and has no error is still to come.
func (r *Reader) frame() (Frame, Errno, bool) {
	b, ok := r.one()
	if !ok {
		return Frame{}, OK, false
	}
	kind := int(b)
	if e := askKind(kind); e != OK {
		return Frame{}, e, false
	}
	stream, ok := r.number()
	if !ok {
		return Frame{}, r.lack(), false
	}
	if e := askStream(kind, stream); e != OK {
		return Frame{}, e, false
	}
	length, ok := r.number()
	if !ok {
		return Frame{}, r.lack(), false
	}
	if e := askLength(kind, length); e != OK {
		return Frame{}, e, false
	}
	data, ok := r.take(length)
	if !ok {
		return Frame{}, OK, false
	}
	if e := askPayload(kind, data); e != OK {
		return Frame{}, e, false
	}
	return Frame{kind, stream, strings.Clone(data)}, OK, true
}

// lack tells why a number could not be taken: a byte that can't stand there, or only that more bytes must come.
func (r *Reader) lack() Errno {
	if r.ended() {
		return OK
	}
	return ErrNumber
}
