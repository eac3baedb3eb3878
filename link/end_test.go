package link_test

import (
	"fmt"
	"math"
	"strings"
	"testing"

	"link/link"
)

func newEnd(t *testing.T, side, window int) *link.End {
	t.Helper()
	end, e := link.New(side, window)
	if end == nil || e != link.OK {
		t.Fatalf("New %d %d: %v %d", side, window, end, e)
	}
	return end
}

// The events of each kind.
func begun(stream int, l ...string) link.Event {
	return link.Event{Kind: 1, Stream: stream, Headers: pairs(l...)}
}
func bytes(stream int, text string) link.Event {
	return link.Event{Kind: 2, Stream: stream, Text: text}
}
func ended(stream int) link.Event { return link.Event{Kind: 3, Stream: stream} }
func wasReset(stream, code int) link.Event {
	return link.Event{Kind: 4, Stream: stream, N: code}
}
func ponged(text string) link.Event { return link.Event{Kind: 5, Text: text} }
func byeCame(n int) link.Event      { return link.Event{Kind: 6, N: n} }

// showEvents writes events as text, so that lists without elements are alike.
func showEvents(l []link.Event) string {
	s := ""
	for _, v := range l {
		s += fmt.Sprintf("{%d %d %d %q %q}", v.Kind, v.Stream, v.N, v.Headers, v.Text)
	}
	return s
}

func checkFeed(t *testing.T, end *link.End, b string, wantErr link.Errno, want ...link.Event) {
	t.Helper()
	got, e := end.Feed(b)
	if showEvents(got) != showEvents(want) || e != wantErr {
		t.Fatalf("Feed %q: %s %d, want %s %d", b, showEvents(got), e, showEvents(want), wantErr)
	}
}

// checkDrain drains all, and asks for just these frames.
func checkDrain(t *testing.T, end *link.End, want ...string) {
	t.Helper()
	checkDrainMost(t, end, math.MaxInt, want...)
}

func checkDrainMost(t *testing.T, end *link.End, most int, want ...string) {
	t.Helper()
	if got := end.Drain(most); got != strings.Join(want, "") {
		t.Fatalf("Drain %d: %q, want %q", most, got, want)
	}
}

func checkSubmit(t *testing.T, end *link.End, l []link.Header, body string, want int) {
	t.Helper()
	if got, e, at := end.Submit(l, body); got != want || e != link.OK || at != 0 {
		t.Fatalf("Submit %q %q: %d %d %d, want %d", l, body, got, e, at, want)
	}
}

func checkNoSubmit(t *testing.T, end *link.End, l []link.Header, body string, want link.Errno, wantAt int) {
	t.Helper()
	if got, e, at := end.Submit(l, body); got != 0 || e != want || at != wantAt {
		t.Fatalf("Submit %q and %d bytes: %d %d %d, want error %d %d", l, len(body), got, e, at, want, wantAt)
	}
}

func check(t *testing.T, what string, got, want link.Errno) {
	t.Helper()
	if got != want {
		t.Fatalf("%s: %d, want %d", what, got, want)
	}
}

// letters makes a text of so many bytes that are not all alike.
func letters(n int) string {
	const all = "abcdefghijklmnopqrstuvwxyz0123456789"
	return strings.Repeat(all, n/len(all)+1)[:n]
}

func TestNewRange(t *testing.T) {
	for _, side := range []int{math.MinInt, -1, 2, 3, math.MaxInt} {
		for _, window := range []int{-1, 0, 1, 20, 200, 201} {
			if end, e := link.New(side, window); end != nil || e != link.ErrRange {
				t.Errorf("New %d %d: %v %d", side, window, end, e)
			}
		}
	}
	for side := range 2 {
		for _, window := range []int{math.MinInt, -200, -1, 0, 201, 256, math.MaxInt} {
			if end, e := link.New(side, window); end != nil || e != link.ErrRange {
				t.Errorf("New %d %d: %v %d", side, window, end, e)
			}
		}
		for window := 1; window <= 200; window++ {
			end := newEnd(t, side, window)
			checkDrain(t, end)
			checkFeed(t, end, "", link.OK)
		}
	}
}

// P8: each end has its own streams, in their order.
func TestStreamsOfASide(t *testing.T) {
	for side := range 2 {
		end := newEnd(t, side, 20)
		for i := range 200 {
			n := 1 + side + 2*i
			checkSubmit(t, end, nil, "", n)
			checkDrain(t, end, head(n, ""), last(n, ""))
		}
		for i := range 200 {
			n := 2 - side + 2*i
			checkFeed(t, end, head(n, "")+last(n, ""), link.OK, begun(n), ended(n))
		}
	}
}

// P8: the credit at first, for sending: window bytes for a stream, and twice that for all.
func TestFirstCreditToSend(t *testing.T) {
	for window := 1; window <= 200; window++ {
		end := newEnd(t, 0, window)
		for i := range 3 {
			checkSubmit(t, end, nil, letters(300), 2*i+1)
		}
		sent := map[int]int{}
		frames, _ := wantRead(end.Drain(1000))
		for _, f := range frames {
			if f.Kind == 1 || f.Kind == 2 {
				sent[f.Stream] += len(f.Data)
			}
		}
		if sent[1] > window || sent[3] > window || sent[5] > window || sent[1]+sent[3]+sent[5] != 2*window {
			t.Fatalf("window %d: %v", window, sent)
		}
	}
}

// P8: the credit at first, for receiving.
func TestFirstCreditToReceive(t *testing.T) {
	for _, window := range []int{1, 2, 15, 16, 17, 32, 100, 199, 200} {
		full := newEnd(t, 1, window)
		fill(t, full, 1, window)
		checkFeed(t, full, piece(1, "x"), link.ErrFlow)

		all := newEnd(t, 1, window)
		fill(t, all, 1, window)
		fill(t, all, 3, window)
		checkFeed(t, all, head(5, "")+piece(5, "x"), link.ErrFlow, begun(5))
	}
}

// fill begins a stream, and feeds so many bytes of it.
func fill(t *testing.T, end *link.End, stream, n int) {
	t.Helper()
	checkFeed(t, end, head(stream, ""), link.OK, begun(stream))
	for n > 0 {
		text := letters(min(n, 16))
		checkFeed(t, end, piece(stream, text), link.OK, bytes(stream, text))
		n -= len(text)
	}
}
