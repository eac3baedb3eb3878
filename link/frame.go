package link

const (
	maxFrame  = 64
	maxPiece  = 16
	pingBytes = 8
)

// The kinds of frames.
const (
	kindHead = iota
	kindPiece
	kindLast
	kindReset
	kindCredit
	kindPing
	kindPong
	kindBye
	kinds // how many there are
)

// span is the numbers from least to most.
type span struct{ least, most int }

func (s span) holds(n int) bool { return s.least <= n && n <= s.most }

// want is what a kind asks of a frame's stream and of the length of its payload.
type want struct{ stream, length span }

// wantOf starts from what every frame must be; a kind adds what it asks beyond the kind below it.
func wantOf(kind int) want {
	w := want{span{0, maxNumber}, span{0, maxFrame}}
	switch kind {
	case kindReset:
		w.length.most = numberBytes
		fallthrough
	case kindPiece:
		w.length.least = 1
		fallthrough
	case kindLast:
		w.length.most = min(w.length.most, maxPiece)
		fallthrough
	case kindHead:
		w.stream.least = 1
	case kindBye:
		w.stream.most = 0
		fallthrough
	case kindCredit:
		w.length = span{1, numberBytes}
	case kindPing, kindPong:
		w.stream.most = 0
		w.length = span{pingBytes, pingBytes}
	}
	return w
}

// Pack writes a frame (P3).
func Pack(f Frame) (string, Errno) {
	if e := askFrame(f); e != OK {
		return "", e
	}
	return string(appendFrame(nil, f)), OK
}

// appendFrame writes a frame that is right.
func appendFrame(b []byte, f Frame) []byte {
	b = append(b, byte(f.Kind))
	b = appendNumber(b, f.Stream)
	b = appendNumber(b, len(f.Data))
	return append(b, f.Data...)
}

// numberFrame makes a frame whose payload is a number.
func numberFrame(kind, stream, n int) Frame {
	return Frame{kind, stream, string(appendNumber(nil, n))}
}

// number is the payload of a frame that is right and has a number for it.
func (f Frame) number() int {
	c := cursor{text: f.Data}
	n, _ := c.number()
	return n
}

func askFrame(f Frame) Errno {
	if e := askKind(f.Kind); e != OK {
		return e
	}
	if !isNumber(f.Stream) {
		return ErrNumber
	}
	if e := askStream(f.Kind, f.Stream); e != OK {
		return e
	}
	if e := askLength(f.Kind, len(f.Data)); e != OK {
		return e
	}
	return askPayload(f.Kind, f.Data)
}

func askKind(kind int) Errno {
	if kind < 0 || kind >= kinds {
		return ErrKind
	}
	return OK
}

func askStream(kind, stream int) Errno {
	if !wantOf(kind).stream.holds(stream) {
		return ErrStream
	}
	return OK
}

func askLength(kind, length int) Errno {
	if length > maxFrame {
		return ErrLarge
	}
	if !wantOf(kind).length.holds(length) {
		return ErrPayload
	}
	return OK
}

// askPayload asks of a payload whose length can be.
func askPayload(kind int, data string) Errno {
	switch kind {
	case kindReset, kindCredit, kindBye:
		c := cursor{text: data}
		if _, ok := c.number(); !ok || !c.ended() {
			return ErrPayload
		}
	}
	return OK
}
