package link_test

import (
	"math"
	"runtime"
	"slices"
	"strings"
	"testing"
	"unsafe"

	"link/link"
)

// P1: whatever is packed, there is an answer, and beside an error it is the empty string.
func TestPackAnswersAlways(t *testing.T) {
	numbers := []int{math.MinInt, math.MinInt32, -268435456, -1, 0, 1, 4, 5, 7, 8, 255, 256, 268435455, 268435456, math.MaxInt32, math.MaxInt}
	texts := []string{"", "\x00", "\x80", "\xff\xff\xff\xff\xff", "12345678", strings.Repeat("\x80", 64), strings.Repeat("\xff", 65), strings.Repeat("x", 1<<20)}
	for _, kind := range numbers {
		for _, stream := range numbers {
			for _, data := range texts {
				f := link.Frame{Kind: kind, Stream: stream, Data: data}
				s, e := link.Pack(f)
				if e != wantPack(f) || (e == link.OK) != (s != "") {
					t.Fatalf("Pack {%d %d, %d bytes}: %q %d", kind, stream, len(data), s, e)
				}
			}
		}
	}
}

// P1: whatever is fed, there is an answer.
func TestFeedAnswersAlways(t *testing.T) {
	d := dice(1)
	for range 20000 {
		b := make([]byte, d.below(40))
		for i := range b {
			b[i] = byte(d.below(1 + d.below(256)))
		}
		checkAgainstMachine(t, string(b))
	}
}

func TestFeedLongTexts(t *testing.T) {
	const many = 200000
	r := link.NewReader()
	l, e := r.Feed("\x02" + strings.Repeat("\x01\x00\x02", many))
	if len(l) != many || e != link.OK {
		t.Fatalf("%d frames, %d", len(l), e)
	}
	for range many {
		if l, e = r.Feed("\x01\x00\x02"); len(l) != 1 || e != link.OK {
			t.Fatalf("%+v %d", l, e)
		}
	}
	if l, e = r.Feed(strings.Repeat("\xff", many)); len(l) != 0 || e != link.ErrNumber {
		t.Fatalf("%d frames, %d", len(l), e)
	}
}

// P2: what Pack answers depends on its argument alone.
func TestPackRemembersNothing(t *testing.T) {
	f := link.Frame{Kind: 1, Stream: 300, Data: "body"}
	first, _ := link.Pack(f)
	for kind := -1; kind < 9; kind++ {
		link.Pack(link.Frame{Kind: kind, Stream: kind, Data: "12345678"})
		if again, e := link.Pack(f); again != first || e != link.OK {
			t.Fatalf("%q %d, at first %q", again, e, first)
		}
	}
}

// P2: readers share nothing: neither what waits in them nor an error.
func TestReadersShareNothing(t *testing.T) {
	a, b, c := link.NewReader(), link.NewReader(), link.NewReader()
	a.Feed("\x00\x01\x03a")
	b.Feed("\x08")
	c.Feed("\x05\x00\x081234")
	if l, e := a.Feed("bc"); e != link.OK || !slices.Equal(l, []link.Frame{{Kind: 0, Stream: 1, Data: "abc"}}) {
		t.Errorf("%+v %d", l, e)
	}
	if l, e := b.Feed("\x02\x01\x00"); e != link.ErrKind || len(l) != 0 {
		t.Errorf("%+v %d", l, e)
	}
	if l, e := c.Feed("5678"); e != link.OK || !slices.Equal(l, []link.Frame{{Kind: 5, Stream: 0, Data: "12345678"}}) {
		t.Errorf("%+v %d", l, e)
	}
	checkRead(t, []string{everyKind}, everyKindFrames, link.OK)
}

// P2: a list that was answered is the caller's.
func TestFramesAreTheCallers(t *testing.T) {
	r := link.NewReader()
	first, _ := r.Feed("\x00\x01\x01a\x00\x03\x01b\x02\x01")
	kept := slices.Clone(first)
	for i := range first {
		first[i] = link.Frame{Kind: 9, Stream: 9, Data: "spoilt"}
	}
	_ = append(first[:0], first...)
	second, e := r.Feed("\x01z\x00\x05\x01c")
	if e != link.OK || !slices.Equal(second, []link.Frame{{Kind: 2, Stream: 1, Data: "z"}, {Kind: 0, Stream: 5, Data: "c"}}) {
		t.Fatalf("%+v %d", second, e)
	}
	if first[0].Kind != 9 || first[1].Kind != 9 || kept[0].Data != "a" || kept[1].Data != "b" {
		t.Fatalf("an answer was written over: %+v %+v", first, kept)
	}
}

// lent calls a function with a text whose memory becomes something else behind the call.
func lent(s string, use func(string)) {
	memory := []byte(s)
	use(unsafe.String(unsafe.SliceData(memory), len(memory)))
	for i := range memory {
		memory[i] = '#'
	}
}

// P2: what was handed in is not kept: its memory may become something else.
func TestBytesHandedInAreNotKept(t *testing.T) {
	for i := 1; i < len(everyKind); i++ {
		r := link.NewReader()
		var got []link.Frame
		for _, piece := range []string{everyKind[:i], everyKind[i:]} {
			lent(piece, func(b string) {
				l, _ := r.Feed(b)
				got = append(got, l...)
			})
		}
		if !slices.Equal(got, everyKindFrames) {
			t.Fatalf("cut at %d: %+v", i, got)
		}
	}
	var packed string
	lent("abc", func(data string) { packed, _ = link.Pack(link.Frame{Kind: 0, Stream: 1, Data: data}) })
	if packed != "\x00\x01\x03abc" {
		t.Fatalf("%q", packed)
	}
}

// growth tells by how many bytes the memory in use has grown.
func growth(do func()) int64 {
	var before, after runtime.MemStats
	runtime.GC()
	runtime.ReadMemStats(&before)
	do()
	runtime.GC()
	runtime.ReadMemStats(&after)
	return int64(after.HeapAlloc) - int64(before.HeapAlloc)
}

// checkKeepLittle makes things through each of which some megabytes go, and asks how much memory they keep.
func checkKeepLittle(t *testing.T, make func(i, size int) any) {
	t.Helper()
	const things, size = 40, 1 << 20
	var kept [things]any
	grown := growth(func() {
		for i := range kept {
			kept[i] = make(i, size)
		}
	})
	if grown > things*size/4 {
		t.Errorf("%d %T keep %d bytes", things, kept[0], grown)
	}
	runtime.KeepAlive(kept)
}

// A reader keeps no more than the bytes of one frame, whatever went through it.
func TestReaderKeepsLittle(t *testing.T) {
	checkKeepLittle(t, func(i, size int) any {
		r := link.NewReader()
		r.Feed("\x00\x01\x40" + strings.Repeat("x", 64) + strings.Repeat("\x02\x01\x00", size/3) + "\x05\x00" + strings.Repeat("\x08", i%2*size))
		return r
	})
}
