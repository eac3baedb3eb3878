// Package link: frames, headers that are squeezed, and two ends that send messages on streams with credit: see DOC.md.
package link

// Errno is what a call answers: OK or the reason for a refusal.
type Errno int

const (
	OK         Errno = 0
	ErrRange   Errno = 1  // a number that may not be
	ErrNumber  Errno = 2  // no number
	ErrKind    Errno = 3  // no kind of frames
	ErrStream  Errno = 4  // a stream that may not be
	ErrLarge   Errno = 5  // too many bytes
	ErrPayload Errno = 6  // no payload of that kind
	ErrHeader  Errno = 7  // no header
	ErrMany    Errno = 8  // too many headers
	ErrBlock   Errno = 9  // no block
	ErrFlow    Errno = 10 // more than the credit
	ErrFull    Errno = 11 // too many streams
	ErrBye     Errno = 12 // a bye was sent, or came
	ErrDown    Errno = 13 // the end is down
	ErrNone    Errno = 14 // no such stream
)

// Frame is a frame.
type Frame struct {
	Kind, Stream int
	Data         string
}

// Header is a header.
type Header struct{ Name, Value string }

// Event is what an end tells.
type Event struct {
	Kind, Stream, N int
	Headers         []Header
	Text            string
}
