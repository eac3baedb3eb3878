package link_test

import (
	"slices"
	"strings"
	"testing"

	"link/link"
)

// message is a message on its way: what was submitted, and what was told of it.
type message struct {
	l, toldHeaders     []link.Header
	body, toldBody     string
	begun, ended, gone bool // gone: reset by one of the ends
	held, credit       int  // held: bytes that were told and not consumed; credit: what may still be sent
}

// duo is two ends that belong together, the bytes between them, and a carrier that looks at all that it carries.
type duo struct {
	t        *testing.T
	ends     [2]*link.End
	pipes    [2]string // pipes[k] comes from end k
	sent     [2]machine
	came     [2]machine
	credit   [2]int // of all streams: what end k may still send
	messages map[int]*message
	streams  []int // of the messages, in the order of their Submits
	window   int
	pings    [2][]string
	log      []string
}

func newDuo(t *testing.T, window int) *duo {
	return &duo{t: t, ends: [2]*link.End{newEnd(t, 0, window), newEnd(t, 1, window)}, credit: [2]int{2 * window, 2 * window}, messages: map[int]*message{}, window: window}
}

func (w *duo) submit(k int, l []link.Header, body string) {
	n, e, _ := w.ends[k].Submit(l, body)
	if e == link.OK {
		w.messages[n] = &message{l: slices.Clone(l), body: body, credit: w.window}
		w.streams = append(w.streams, n)
	}
}

// drain looks whether there was credit for all that goes.
func (w *duo) drain(k, most int) {
	w.t.Helper()
	s := w.ends[k].Drain(most)
	w.log = append(w.log, s)
	w.pipes[k] += s
	for i := range len(s) {
		w.sent[k].put(s[i])
	}
	if w.sent[k].fault != link.OK || w.sent[k].phase != 0 {
		w.t.Fatalf("end %d sends no frames: %q", k, s)
	}
	for _, f := range w.sent[k].frames {
		m := w.messages[f.Stream]
		if f.Kind == 3 { // of a head behind a bye nothing else tells, if its last is on the way
			m.gone = true
		}
		if f.Kind != 1 && f.Kind != 2 {
			continue
		}
		m.credit -= len(f.Data)
		w.credit[k] -= len(f.Data)
		if m.credit < 0 || w.credit[k] < 0 {
			w.t.Fatalf("end %d sends more than there is credit for, on stream %d", k, f.Stream)
		}
	}
	w.sent[k].frames = nil
}

// carry brings bytes of end k to the other one.
func (w *duo) carry(k, n int) {
	w.t.Helper()
	b := w.pipes[k][:n]
	w.pipes[k] = w.pipes[k][n:]
	for i := range len(b) {
		w.came[k].put(b[i])
	}
	for _, f := range w.came[k].frames {
		if f.Kind == 4 && f.Stream == 0 {
			w.credit[1-k] += numberOf(f.Data)
		} else if f.Kind == 4 {
			w.messages[f.Stream].credit += numberOf(f.Data)
		}
	}
	w.came[k].frames = nil
	l, e := w.ends[1-k].Feed(b)
	w.log = append(w.log, showEvents(l))
	if e != link.OK {
		w.t.Fatalf("end %d came down: %d", 1-k, e)
	}
	for _, v := range l {
		w.hear(1-k, v)
	}
}

// hear notes what end k tells, and asks that it is the beginning of what was submitted.
func (w *duo) hear(k int, v link.Event) {
	w.t.Helper()
	m := w.messages[v.Stream]
	switch v.Kind {
	case 1:
		m.begun, m.toldHeaders = true, v.Headers
	case 2:
		m.toldBody += v.Text
		m.held += len(v.Text)
	case 3:
		m.ended = true
	case 4:
		m.gone, m.held = true, 0
	case 5:
		if len(w.pings[k]) == 0 || w.pings[k][0] != v.Text {
			w.t.Fatalf("end %d: a pong %q, pings %q", k, v.Text, w.pings[k])
		}
		w.pings[k] = w.pings[k][1:]
	}
	if m != nil && (!m.begun && v.Kind < 4 || m.begun && !slices.Equal(m.l, m.toldHeaders) || !strings.HasPrefix(m.body, m.toldBody) || m.ended && m.body != m.toldBody) {
		w.t.Fatalf("stream %d: told %q %q, submitted %q %q", v.Stream, m.toldHeaders, m.toldBody, m.l, m.body)
	}
}

func (w *duo) consume(stream, n int) {
	if w.ends[stream%2].Consume(stream, n) == link.OK {
		w.messages[stream].held -= n
	}
}

func (w *duo) reset(k, stream, code int) {
	if w.ends[k].Reset(stream, code) == link.OK {
		w.messages[stream].gone, w.messages[stream].held = true, 0
	}
}

func (w *duo) ping(k int, text string) {
	if w.ends[k].Ping(text) == link.OK {
		w.pings[k] = append(w.pings[k], text)
	}
}

// call throws a call of end k; calm is how seldom streams are reset.
func (d *dice) call(w *duo, k, calm int) {
	stream := 1
	if len(w.streams) > 0 {
		stream = w.streams[max(0, len(w.streams)-1-d.below(8))]
	}
	switch d.below(7) {
	case 0, 1:
		w.submit(k, d.headerList(), letters(d.below(301)))
	case 2, 3:
		w.drain(k, d.below(6))
	case 4, 5:
		if m := w.messages[stream]; m != nil && m.held > 0 {
			w.consume(stream, 1+d.below(m.held))
		}
	case 6:
		if d.below(calm) == 0 {
			w.reset(k, stream, d.below(1000))
		} else if d.below(4) == 0 {
			w.ping(k, letters(16)[d.below(8):][:8])
		}
	}
}

// act throws a call, or carries some bytes.
func (d *dice) actDuo(w *duo, calm int) {
	if k := d.below(2); d.below(10) < 7 {
		d.call(w, k, calm)
	} else {
		w.carry(k, d.below(len(w.pipes[k])+1))
	}
}

// settle consumes, drains and carries until nothing happens any more.
func (w *duo) settle(d *dice) {
	for quiet := false; !quiet; {
		quiet = true
		for _, n := range w.streams {
			if held := w.messages[n].held; held > 0 {
				w.consume(n, held)
				quiet = false
			}
		}
		for k := range 2 {
			w.drain(k, 1+d.below(30))
			for w.pipes[k] != "" {
				w.carry(k, 1+d.below(len(w.pipes[k])))
				quiet = false
			}
		}
	}
}

// P16: none comes down, what is told is the beginning of what was submitted, and in the end all of it.
func TestTwoEnds(t *testing.T) {
	whole, gone := 0, 0
	for round := range 600 {
		d := dice(round + 50000)
		w := newDuo(t, []int{1, 2, 7, 16, 20, 50, 199, 200}[round%8])
		for range 100 + d.below(600) {
			d.actDuo(w, []int{1, 10, 1000000}[round%3])
		}
		if round%5 == 0 {
			w.ends[round%2].Bye()
			for range d.below(100) {
				d.actDuo(w, 10)
			}
		}
		w.settle(&d)
		for _, n := range w.streams {
			switch m := w.messages[n]; {
			case m.gone:
				gone++
			case !m.ended || m.body != m.toldBody:
				t.Fatalf("round %d: stream %d: %d of %d bytes were told, ended: %v", round, n, len(m.toldBody), len(m.body), m.ended)
			default:
				whole++
			}
		}
		if len(w.pings[0])+len(w.pings[1]) > 0 || w.credit != [2]int{2 * w.window, 2 * w.window} {
			t.Fatalf("round %d: pings %q, credit %d, window %d", round, w.pings, w.credit, w.window)
		}
	}
	if whole < 3000 || gone < 1000 {
		t.Errorf("the play is lame: %d messages came whole, %d were reset", whole, gone)
	}
}

// P16: what is not consumed holds a message up, but brings no end down.
func TestNothingIsConsumed(t *testing.T) {
	for _, window := range []int{1, 16, 20, 200} {
		w := newDuo(t, window)
		for k := range 2 {
			for range 4 {
				w.submit(k, pairs("a", "1"), letters(300))
			}
		}
		for range 100 {
			for k := range 2 {
				w.drain(k, 3)
				w.carry(k, len(w.pipes[k]))
			}
		}
		for k := range 2 {
			told := 0
			for n, m := range w.messages {
				if n%2 == k {
					told += len(m.toldBody)
				}
			}
			if told != 2*window {
				t.Errorf("window %d: %d bytes were told", window, told)
			}
		}
		w.settle(new(dice))
		for n, m := range w.messages {
			if m.toldBody != m.body || !m.ended {
				t.Errorf("window %d: stream %d is not whole", window, n)
			}
		}
	}
}

// P16: a bye and a head that cross: the message is reset, and all others come whole.
func TestByeAndHeadCross(t *testing.T) {
	a, b := newEnd(t, 0, 20), newEnd(t, 1, 20)
	checkSubmit(t, a, pairs("a", "1"), "first", 1)
	checkFeed(t, b, a.Drain(1), link.OK, begun(1, "a", "1"))
	checkSubmit(t, a, pairs("a", "1"), letters(50), 3)
	check(t, "Bye", b.Bye(), link.OK)
	fromA, fromB := a.Drain(9), b.Drain(9)
	checkFeed(t, a, fromB, link.OK, byeCame(1))
	checkFeed(t, b, fromA, link.OK, bytes(1, "first"), ended(1))
	checkNoSubmit(t, a, nil, "", link.ErrBye, 0)
	checkFeed(t, a, b.Drain(9), link.OK, wasReset(3, 0))
	checkDrain(t, a)
	check(t, "Consume", b.Consume(1, 5), link.OK)
	checkFeed(t, a, b.Drain(9), link.OK)
}

// P16: how bytes are cut on the way is nowhere seen.
func TestCutsAreNowhereSeen(t *testing.T) {
	for round := range 60 {
		var logs [4]string
		for way := range logs {
			logs[way] = playCut(t, round, way)
		}
		for way := range logs {
			if logs[way] != logs[0] {
				t.Fatalf("round %d: cut in way %d: %q, want %q", round, way, logs[way], logs[0])
			}
		}
	}
}

// playCut plays the same calls each time; only the cuts of what is carried hang on the way.
func playCut(t *testing.T, round, way int) string {
	d, cuts := dice(round+90000), dice(way)
	w := newDuo(t, 1+d.below(200))
	for range 300 {
		if k := d.below(2); d.below(4) > 0 {
			d.call(w, k, 3)
		} else {
			for w.pipes[k] != "" {
				n := []int{len(w.pipes[k]), 1, 1 + cuts.below(len(w.pipes[k])), 1 + cuts.below(min(5, len(w.pipes[k])))}[way]
				w.carry(k, n)
			}
		}
	}
	return strings.Join(w.log, "")
}
