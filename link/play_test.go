package link_test

import (
	"strings"
	"testing"

	"link/link"
)

// twin is an end and its model, which get the same calls.
type twin struct {
	t     *testing.T
	end   *link.End
	model *endModel
}

func newTwin(t *testing.T, side, window int) *twin {
	return &twin{t: t, end: newEnd(t, side, window), model: newEndModel(side, window)}
}

func (w *twin) submit(l []link.Header, body string) {
	w.t.Helper()
	got, e, at := w.end.Submit(l, body)
	want, wantErr, wantAt := w.model.submit(l, body)
	if got != want || e != wantErr || at != wantAt {
		w.t.Fatalf("Submit %q, %d bytes: %d %d %d, want %d %d %d", l, len(body), got, e, at, want, wantErr, wantAt)
	}
}

func (w *twin) check(what string, got, want link.Errno) {
	w.t.Helper()
	check(w.t, what, got, want)
}

func (w *twin) drain(most int) {
	w.t.Helper()
	if got, want := w.end.Drain(most), w.model.drain(most); got != want {
		w.t.Fatalf("Drain %d: %q, want %q", most, got, want)
	}
}

func (w *twin) feed(b string) {
	w.t.Helper()
	got, e := w.end.Feed(b)
	want, wantErr := w.model.feed(b)
	if showEvents(got) != showEvents(want) || e != wantErr {
		w.t.Fatalf("Feed %q: %s %d, want %s %d", b, showEvents(got), e, showEvents(want), wantErr)
	}
}

// act throws a call of an end.
func (d *dice) act(w *twin) {
	switch d.below(12) {
	case 0, 1:
		w.submit(d.headerList(), letters(d.bodyLength()))
	case 2, 3:
		stream, n := d.inStream(w.model), 1+d.below(1+d.below(40))
		if d.below(20) == 0 {
			n = -d.below(2)
		}
		w.check("Consume", w.end.Consume(stream, n), w.model.consume(stream, n))
	case 4:
		stream, code := d.below(2*max(len(w.model.in), len(w.model.out))+4)-1, edgeNumbers[d.below(len(edgeNumbers))].n
		if d.below(20) == 0 {
			code = -1 + d.below(2)*268435457
		}
		w.check("Reset", w.end.Reset(stream, code), w.model.reset(stream, code))
	case 5:
		text := "12345678"[:8-d.below(1+d.below(2))]
		w.check("Ping", w.end.Ping(text), w.model.ping(text))
	case 6:
		if d.below(20) == 0 {
			w.check("Bye", w.end.Bye(), w.model.bye())
		}
	case 7, 8:
		w.drain(d.below(8) - 1)
	default:
		d.feedSome(w)
	}
}

func (d *dice) bodyLength() int {
	return []int{0, 1, 15, 16, 17, 32, 40, 200, 300, 301}[d.below(10)]
}

// inStream throws a stream of the other end that has begun, one of late more often than not; now and then any number.
func (d *dice) inStream(m *endModel) int {
	if len(m.in) == 0 || d.below(80) == 0 {
		return d.below(2*len(m.in)+6) - 1
	}
	return m.otherNumber(max(0, len(m.in)-1-d.below(1+d.below(6))))
}

func (d *dice) outStream(m *endModel) int {
	if len(m.out) == 0 || d.below(80) == 0 {
		return d.below(2*len(m.out) + 6)
	}
	return m.ownNumber(max(0, len(m.out)-1-d.below(1+d.below(6))))
}

// comingStream throws a stream of the other end that has not ended, if there is one; now and then any one.
func (d *dice) comingStream(m *endModel) (int, bool) {
	if d.below(80) == 0 {
		return max(1, d.inStream(m)), true
	}
	for range 20 {
		stream := d.inStream(m)
		if s := m.otherStream(stream); s != nil && !s.ended {
			return stream, true
		}
	}
	return 0, false
}

// feedSome feeds frames, most of them right, each cut anywhere.
func (d *dice) feedSome(w *twin) {
	w.t.Helper()
	for range 1 + d.below(3) {
		s := d.frameFor(w.model)
		if d.below(300) == 0 {
			s = s[:d.below(len(s)+1)] + string([]byte{byte(d.below(256))})
		}
		cut := d.below(len(s) + 1)
		w.feed(s[:cut])
		w.feed(s[cut:])
	}
}

func (d *dice) frameFor(m *endModel) string {
	switch d.below(14) {
	case 0, 1, 2:
		return d.headFor(m)
	case 3, 4, 5, 6:
		return d.bytesFor(m, 1)
	case 7, 8:
		return d.bytesFor(m, 2)
	case 9:
		if d.below(2) == 0 && len(m.in) > 0 {
			return reset(max(1, d.inStream(m)), d.below(300))
		}
		if len(m.out) > 0 {
			return reset(max(1, d.outStream(m)), d.below(300))
		}
	case 10, 11:
		stream := 0
		if len(m.out) > 0 {
			stream = d.outStream(m) * d.below(2)
		}
		if d.below(60) == 0 {
			return credit(stream, []int{0, 99000, 99900, 100000, 268435455}[d.below(5)])
		}
		return credit(stream, 1+d.below(1+d.below(60)))
	case 12:
		text := letters(8 + d.below(8))
		return ping(text[len(text)-8:]) + pong(text[:8])
	}
	if d.below(20) == 0 {
		return bye(d.below(300))
	}
	return ""
}

// headFor throws a head of a stream that can begin, with a block that fits the model's table for receiving more often than not.
func (d *dice) headFor(m *endModel) string {
	table := *m.expands
	block, e, _ := table.squeeze(d.headerList())
	if e != link.OK || len(block) > 64 {
		block = ""
	}
	if d.below(200) == 0 {
		block = strings.Repeat("\x00", d.below(64))
	}
	stream := m.otherNumber(len(m.in))
	if d.below(200) == 0 {
		stream += 1 + d.below(2)
	}
	return head(stream, block)
}

// bytesFor throws a piece or a last that is within the credit more often than not.
func (d *dice) bytesFor(m *endModel, kind int) string {
	stream, ok := d.comingStream(m)
	if !ok {
		return ""
	}
	text := letters(d.below(17))
	if s := m.otherStream(stream); s != nil && d.below(40) > 0 {
		text = text[:max(0, min(len(text), s.gave-s.came, m.gave-m.came))]
	}
	if text == "" {
		kind = 2
	}
	return frame(kind, stream, text)
}

// Whatever is called and fed, an end does as the model does.
func TestEndAgainstModel(t *testing.T) {
	faults, long := map[link.Errno]int{}, 0
	for round := range 3000 {
		d := dice(round)
		w := newTwin(t, round%2, []int{1, 5, 16, 20, 40, 100, 200}[round%7])
		after := 0
		for step := 0; step < 400 && after < 10; step++ {
			d.act(w)
			if w.model.fault != link.OK {
				after++
			}
		}
		faults[w.model.fault]++
		if len(w.model.in) > 10 && len(w.model.out) > 10 {
			long++
		}
		w.drain(1 << 20)
		w.feed("")
	}
	for _, e := range []link.Errno{link.OK, link.ErrNumber, link.ErrKind, link.ErrStream, link.ErrLarge, link.ErrPayload, link.ErrBlock, link.ErrFlow} {
		if faults[e] < 10 {
			t.Errorf("the play is lame: only %d ends with %d", faults[e], e)
		}
	}
	if long < 300 {
		t.Errorf("the play is lame: only %d ends had many streams", long)
	}
}
