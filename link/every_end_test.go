package link_test

import (
	"math"
	"runtime"
	"slices"
	"strings"
	"testing"

	"link/link"
)

// P1: whatever is called, there is an answer.
func TestEndAnswersAlways(t *testing.T) {
	numbers := []int{math.MinInt, math.MinInt32, -268435456, -1, 0, 1, 2, 3, 200, 201, 268435455, 268435456, math.MaxInt32, math.MaxInt}
	texts := []string{"", "\x00", "12345678", "\xff\xff\xff\xff\xff", strings.Repeat("\x00", 64), strings.Repeat("x", 1<<20)}
	for _, side := range numbers {
		for _, window := range numbers {
			end, e := link.New(side, window)
			if (end == nil) != (e != link.OK) {
				t.Fatalf("New %d %d: %v %d", side, window, end, e)
			}
			if end == nil {
				continue
			}
			w := &twin{t, end, newEndModel(side, window)}
			w.feed(head(2-side, "") + piece(2-side, "x"))
			for _, a := range numbers {
				for _, b := range numbers {
					w.check("Consume", w.end.Consume(a, b), w.model.consume(a, b))
					w.check("Reset", w.end.Reset(a, b), w.model.reset(a, b))
				}
				w.drain(a)
			}
			for _, s := range texts {
				w.check("Ping", w.end.Ping(s), w.model.ping(s))
				w.submit(pairs(s, s), s)
				w.submit(nil, s)
			}
			w.submit(make([]link.Header, 100000), "")
			for _, s := range texts {
				w.feed(s)
			}
			w.drain(math.MaxInt)
		}
	}
}

// P1: bytes of any kind.
func TestEndFeedAnswersAlways(t *testing.T) {
	d := dice(11)
	for round := range 20000 {
		w := newTwin(t, round%2, 1+d.below(200))
		b := make([]byte, d.below(60))
		for i := range b {
			b[i] = byte(d.below(1 + d.below(1+d.below(256))))
		}
		w.feed(string(b))
		w.drain(100)
	}
}

func TestFeedAndDrainMuch(t *testing.T) {
	const many = 200000
	end := newEnd(t, 1, 20)
	checkFeed(t, end, strings.Repeat(ping("12345678"), many), link.OK)
	for i := range many {
		if got := end.Drain(1); got != pong("12345678") {
			t.Fatalf("frame %d: %q", i, got)
		}
	}
	checkDrain(t, end)
}

// P2: ends share nothing, not even those that had the same calls.
func TestEndsShareNothing(t *testing.T) {
	a, b, c := newEnd(t, 0, 20), newEnd(t, 0, 20), newEnd(t, 0, 20)
	checkSubmit(t, a, pairs("a", "1"), "abc", 1)
	checkFeed(t, a, head(2, write("b", "2"))+piece(2, "xyz"), link.OK, begun(2, "b", "2"), bytes(2, "xyz"))
	checkFeed(t, b, "\x08", link.ErrKind)
	check(t, "Bye", c.Bye(), link.OK)
	checkFeed(t, c, head(2, "")[:2], link.OK)
	fresh := newEnd(t, 0, 20)
	checkDrain(t, fresh)
	check(t, "Consume", fresh.Consume(2, 1), link.ErrNone)
	checkSubmit(t, fresh, pairs("a", "1"), "x", 1)
	checkDrain(t, fresh, head(1, write("a", "1")), last(1, "x"))
	checkFeed(t, fresh, head(2, "\x08"), link.ErrBlock)
	checkDrain(t, a, head(1, write("a", "1")), last(1, "abc"))
	checkDrain(t, b, bye(0))
	checkDrain(t, c, bye(0))
	checkFeed(t, c, head(2, "")[2:], link.OK)
	checkDrain(t, c, reset(2, 0))
}

// P2: what was handed in is not kept: its memory may become something else.
func TestEndKeepsNothingHandedIn(t *testing.T) {
	end := newEnd(t, 0, 200)
	lent("name", func(name string) {
		lent("value", func(value string) {
			lent(letters(40), func(body string) { checkSubmit(t, end, pairs(name, value, "kind", value), body, 1) })
		})
	})
	lent("12345678", func(text string) { check(t, "Ping", end.Ping(text), link.OK) })
	mine := pairs("name", "value")
	checkSubmit(t, end, mine, "", 3)
	mine[0] = link.Header{Name: "spoilt"}
	checkDrain(t, end, head(1, write("name", "value")+"\x05\x05value"), ping("12345678"), head(3, "\x0a"), piece(1, letters(16)), last(3, ""), piece(1, letters(32)[16:]), last(1, letters(40)[32:]))

	all := head(2, write("topic", "tea")) + piece(2, "abc") + ping("abcdefgh") + pong("87654321") + head(4, "\x08") + last(4, "de")
	for i := range len(all) + 1 {
		end := newEnd(t, 0, 200)
		var got []link.Event
		for _, p := range []string{all[:i], all[i:]} {
			lent(p, func(b string) {
				l, _ := end.Feed(b)
				got = append(got, l...)
			})
		}
		want := []link.Event{begun(2, "topic", "tea"), bytes(2, "abc"), ponged("87654321"), begun(4, "topic", "tea"), bytes(4, "de"), ended(4)}
		if showEvents(got) != showEvents(want) {
			t.Fatalf("cut at %d: %s", i, showEvents(got))
		}
		checkDrain(t, end, pong("abcdefgh"))
	}
}

// P2: events and their headers are the caller's.
func TestEventsAreTheCallers(t *testing.T) {
	end := newEnd(t, 1, 20)
	first, _ := end.Feed(head(1, write("a", "1")+write("b", "2")) + head(3, "\x08\x0a"))
	kept := slices.Clone(first[1].Headers)
	for i := range first[0].Headers {
		first[0].Headers[i] = link.Header{Name: "spoilt"}
	}
	_ = append(first[0].Headers[:1], link.Header{Name: "more"})
	if !slices.Equal(first[1].Headers, kept) || !slices.Equal(kept, pairs("b", "2", "a", "1")) {
		t.Fatalf("two lists of one answer share: %q", first[1].Headers)
	}
	first[0], first[1] = link.Event{}, link.Event{}
	checkFeed(t, end, head(5, "\x08\x0a"), link.OK, begun(5, "b", "2", "a", "1"))
	if showEvents(first) != showEvents(make([]link.Event, 2)) {
		t.Errorf("an answer was written over: %s", showEvents(first))
	}
}

// An end keeps no more than it needs, whatever went through it.
func TestEndKeepsLittle(t *testing.T) {
	checkKeepLittle(t, func(i, size int) any {
		end := newEnd(t, 1, 20)
		text := strings.Repeat("x", size)
		end.Submit(pairs("a", text[:4]), text[:30])
		end.Submit(nil, text)
		end.Ping(text[:8])
		frames := head(1, write("b", "1")) + piece(1, "abc") + ping("12345678")
		end.Feed((frames + text)[:len(frames)])
		end.Drain(20)
		end.Feed(strings.Repeat(ping("12345678"), size/11))
		if i%2 == 0 {
			end.Drain(math.MaxInt)
		} else {
			for range size/11 + 20 {
				end.Drain(1)
			}
		}
		checkFeed(t, end, pong("12345678"), link.OK, ponged("12345678"))
		return end
	})
}

// Streams that are over are not kept, nor is anything of an end that is down but what waits to be sent.
func TestEndForgetsStreams(t *testing.T) {
	const many = 50000
	for _, play := range []func(end *link.End, stream int){
		func(end *link.End, stream int) { end.Feed(head(stream, "") + last(stream, "")) },
		func(end *link.End, stream int) {
			end.Feed(head(stream, "") + last(stream, "abc"))
			end.Consume(stream, 3)
		},
		func(end *link.End, stream int) { end.Feed(head(stream, "") + piece(stream, "x") + reset(stream, 0)) },
		func(end *link.End, stream int) {
			end.Feed(head(stream, "") + piece(stream, "x"))
			end.Reset(stream, 0)
			end.Feed(last(stream, "y"))
		},
		func(end *link.End, stream int) {
			end.Feed(head(stream, ""))
			end.Reset(stream, 0)
			end.Feed(reset(stream, 0))
		},
		func(end *link.End, stream int) { end.Submit(nil, "x"); end.Drain(9); end.Feed(credit(0, 1)) },
		func(end *link.End, stream int) { end.Submit(nil, "x"); end.Reset(stream+1, 0) },
		func(end *link.End, stream int) {
			end.Feed(head(stream, ""))
			if stream == 2*many-1 {
				end.Feed("\x08")
			}
		},
	} {
		end := newEnd(t, 1, 20)
		grown := growth(func() {
			for i := range many {
				play(end, 2*i+1)
				end.Drain(9)
			}
		})
		if grown > many*4 {
			t.Errorf("%d streams that are over keep %d bytes", many, grown)
		}
		runtime.KeepAlive(end)
	}
}
