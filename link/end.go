package link

// End is one end of a link. Make it by New.
type End struct{}

// New makes an end (P8).
func New(side int, window int) (*End, Errno) { return nil, 0 }

// Submit gives a message to be sent (P9).
func (e *End) Submit(l []Header, body string) (int, Errno, int) { return 0, 0, 0 }

// Consume tells that bytes were consumed (P11).
func (e *End) Consume(stream int, n int) Errno { return 0 }

// Reset ends a stream (P13).
func (e *End) Reset(stream int, code int) Errno { return 0 }

// Ping asks for a pong (P12).
func (e *End) Ping(text string) Errno { return 0 }

// Bye tells that no more messages are taken (P12).
func (e *End) Bye() Errno { return 0 }

// Drain tells what is to be sent (P10).
func (e *End) Drain(most int) string { return "" }

// Feed takes bytes, and tells what has happened (P14, P15).
func (e *End) Feed(b string) ([]Event, Errno) { return nil, 0 }
