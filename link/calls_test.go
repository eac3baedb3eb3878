package link_test

import (
	"testing"

	"link/link"
)

// The calls stand as the document lists them: this does not build if a signature is another one.
var (
	_ func(link.Frame) (string, link.Errno)                         = link.Pack
	_ func() *link.Reader                                           = link.NewReader
	_ func(*link.Reader, string) ([]link.Frame, link.Errno)         = (*link.Reader).Feed
	_ func(int) (*link.Table, link.Errno)                           = link.NewTable
	_ func(*link.Table, []link.Header) (string, link.Errno, int)    = (*link.Table).Squeeze
	_ func(*link.Table, string) ([]link.Header, link.Errno, int)    = (*link.Table).Expand
	_ func(*link.Table) []link.Header                               = (*link.Table).Entries
	_ func(int, int) (*link.End, link.Errno)                        = link.New
	_ func(*link.End, []link.Header, string) (int, link.Errno, int) = (*link.End).Submit
	_ func(*link.End, int, int) link.Errno                          = (*link.End).Consume
	_ func(*link.End, int, int) link.Errno                          = (*link.End).Reset
	_ func(*link.End, string) link.Errno                            = (*link.End).Ping
	_ func(*link.End) link.Errno                                    = (*link.End).Bye
	_ func(*link.End, int) string                                   = (*link.End).Drain
	_ func(*link.End, string) ([]link.Event, link.Errno)            = (*link.End).Feed

	_ = link.Frame{Kind: 0, Stream: 0, Data: ""}
	_ = link.Header{Name: "", Value: ""}
	_ = link.Event{Kind: 0, Stream: 0, N: 0, Headers: []link.Header{}, Text: ""}
)

func TestErrorsHaveTheirNumbers(t *testing.T) {
	for i, e := range []link.Errno{
		link.OK, link.ErrRange, link.ErrNumber, link.ErrKind, link.ErrStream,
		link.ErrLarge, link.ErrPayload, link.ErrHeader, link.ErrMany, link.ErrBlock,
		link.ErrFlow, link.ErrFull, link.ErrBye, link.ErrDown, link.ErrNone,
	} {
		if int(e) != i {
			t.Errorf("error %d has the number %d", i, int(e))
		}
	}
}
