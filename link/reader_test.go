package link_test

import (
	"slices"
	"strings"
	"testing"

	"link/link"
)

// checkRead feeds pieces to a new reader and asks for all frames of them, and the error of the last.
func checkRead(t *testing.T, pieces []string, want []link.Frame, wantErr link.Errno) {
	t.Helper()
	r := link.NewReader()
	var got []link.Frame
	e := link.OK
	for _, p := range pieces {
		var l []link.Frame
		l, e = r.Feed(p)
		got = append(got, l...)
	}
	if !slices.Equal(got, want) || e != wantErr {
		t.Fatalf("Feed %q: %+v %d, want %+v %d", pieces, got, e, want, wantErr)
	}
}

// oneByOne cuts a text into its bytes.
func oneByOne(s string) []string {
	l := make([]string, len(s))
	for i := range len(s) {
		l[i] = s[i : i+1]
	}
	return l
}

const everyKind = "\x00\x01\x05block" + "\x01\x01\x0212" + "\x02\x01\x00" + "\x03\xff\x7f\x02\x80\x01" +
	"\x04\x00\x01\x7f" + "\x05\x00\x08abcdefgh" + "\x06\x00\x08\x00\x80\xff\x01\x02\x03\x04\x05" + "\x07\x00\x04\xff\xff\xff\x7f" + "\x02\x80\x80\x80\x01\x03end"

var everyKindFrames = []link.Frame{
	{Kind: 0, Stream: 1, Data: "block"},
	{Kind: 1, Stream: 1, Data: "12"},
	{Kind: 2, Stream: 1, Data: ""},
	{Kind: 3, Stream: 16383, Data: "\x80\x01"},
	{Kind: 4, Stream: 0, Data: "\x7f"},
	{Kind: 5, Stream: 0, Data: "abcdefgh"},
	{Kind: 6, Stream: 0, Data: "\x00\x80\xff\x01\x02\x03\x04\x05"},
	{Kind: 7, Stream: 0, Data: "\xff\xff\xff\x7f"},
	{Kind: 2, Stream: 2097152, Data: "end"},
}

func TestReadEveryKind(t *testing.T) {
	checkRead(t, []string{everyKind}, everyKindFrames, link.OK)
}

func TestReadCutAtEveryPlace(t *testing.T) {
	checkRead(t, oneByOne(everyKind), everyKindFrames, link.OK)
	for i := range len(everyKind) + 1 {
		for j := i; j <= len(everyKind); j++ {
			checkRead(t, []string{everyKind[:i], everyKind[i:j], "", everyKind[j:]}, everyKindFrames, link.OK)
		}
	}
}

// A frame is told by the Feed that brings its last byte, and once.
func TestReadTellsAFrameWithItsLastByte(t *testing.T) {
	for _, f := range everyKindFrames {
		s, _ := link.Pack(f)
		r := link.NewReader()
		for i, p := range oneByOne(s) {
			l, e := r.Feed(p)
			if e != link.OK || (len(l) > 0) != (i == len(s)-1) {
				t.Fatalf("byte %d of %q: %+v %d", i, s, l, e)
			}
		}
		if l, e := r.Feed(""); len(l) != 0 || e != link.OK {
			t.Fatalf("behind %q: %+v %d", s, l, e)
		}
	}
}

func TestReadWhatPackWrites(t *testing.T) {
	for kind, k := range kindTable {
		for _, n := range edgeNumbers {
			for length := range 66 {
				f := link.Frame{Kind: kind, Stream: n.n, Data: strings.Repeat("y", length)}
				if k.number && length < len(edgeNumbers) {
					f.Data = edgeNumbers[length].wire
				}
				s, e := link.Pack(f)
				if e != link.OK {
					continue
				}
				checkRead(t, []string{s + s}, []link.Frame{f, f}, link.OK)
				checkRead(t, oneByOne(s), []link.Frame{f}, link.OK)
			}
		}
	}
}

// The error comes with the last byte of each text, not with one ahead of it; and from then on it stays.
func TestReadErrors(t *testing.T) {
	for _, c := range []struct {
		text string
		want link.Errno
	}{
		{"\x08", link.ErrKind},
		{"\x80", link.ErrKind},
		{"\xff", link.ErrKind},
		{"\x02\x01\x00\x08", link.ErrKind},

		{"\x00\x80\x00", link.ErrNumber},
		{"\x00\xff\xff\x00", link.ErrNumber},
		{"\x00\xff\xff\xff\x00", link.ErrNumber},
		{"\x00\x80\x80\x80\x80\x00", link.ErrNumber},
		{"\x00\xff\xff\xff\xff\x01", link.ErrNumber},
		{"\x00\xff\xff\xff\xff\xff", link.ErrNumber},
		{"\x05\x80\x00", link.ErrNumber}, // a stream 0, but too long
		{"\x04\x80\x00", link.ErrNumber},
		{"\x05\x81\x81\x81\x81\x01", link.ErrNumber},
		{"\x00\x01\x80\x00", link.ErrNumber},
		{"\x00\x01\xc0\x00", link.ErrNumber},
		{"\x00\x01\xff\xff\xff\xff\x7f", link.ErrNumber},
		{"\x05\x00\x88\x00", link.ErrNumber},

		{"\x00\x00", link.ErrStream},
		{"\x01\x00", link.ErrStream},
		{"\x02\x00", link.ErrStream},
		{"\x03\x00", link.ErrStream},
		{"\x05\x01", link.ErrStream},
		{"\x06\x01", link.ErrStream},
		{"\x07\x01", link.ErrStream},
		{"\x07\x80\x01", link.ErrStream},
		{"\x05\xff\xff\xff\x7f", link.ErrStream},

		{"\x00\x01\x41", link.ErrLarge},
		{"\x00\x01\x80\x01", link.ErrLarge},
		{"\x00\x01\xff\xff\xff\x7f", link.ErrLarge},
		{"\x01\x01\x41", link.ErrLarge},
		{"\x02\x01\x41", link.ErrLarge},
		{"\x03\x01\x41", link.ErrLarge},
		{"\x04\x00\x41", link.ErrLarge},
		{"\x05\x00\x41", link.ErrLarge},
		{"\x06\x00\x41", link.ErrLarge},
		{"\x07\x00\x41", link.ErrLarge},

		{"\x01\x01\x00", link.ErrPayload},
		{"\x01\x01\x11", link.ErrPayload},
		{"\x02\x01\x11", link.ErrPayload},
		{"\x02\x01\x40", link.ErrPayload},
		{"\x03\x01\x00", link.ErrPayload},
		{"\x03\x01\x05", link.ErrPayload},
		{"\x04\x00\x00", link.ErrPayload},
		{"\x04\x00\x05", link.ErrPayload},
		{"\x05\x00\x00", link.ErrPayload},
		{"\x05\x00\x07", link.ErrPayload},
		{"\x05\x00\x09", link.ErrPayload},
		{"\x06\x00\x07", link.ErrPayload},
		{"\x06\x00\x09", link.ErrPayload},
		{"\x07\x00\x00", link.ErrPayload},
		{"\x07\x00\x05", link.ErrPayload},
		{"\x03\x01\x01\x80", link.ErrPayload},
		{"\x03\x01\x02\x00\x00", link.ErrPayload},
		{"\x03\x01\x02\x80\x80", link.ErrPayload},
		{"\x04\x00\x02\x80\x00", link.ErrPayload},
		{"\x04\x01\x03\x80\x01\x01", link.ErrPayload},
		{"\x07\x00\x04\x80\x80\x80\x80", link.ErrPayload},
		{"\x07\x00\x04\x80\x80\x80\x00", link.ErrPayload},
	} {
		checkFault(t, c.text, c.want)
	}
}

func checkFault(t *testing.T, text string, want link.Errno) {
	t.Helper()
	good, last := text[:len(text)-1], text[len(text)-1:]
	before, _ := wantRead(good)
	checkRead(t, []string{good}, before, link.OK)
	checkRead(t, []string{text}, before, want)
	checkRead(t, []string{text + everyKind}, before, want)
	checkRead(t, oneByOne(text), before, want)
	checkRead(t, oneByOne(text+everyKind), before, want)
	for i := range len(text) {
		checkRead(t, []string{text[:i], text[i:]}, before, want)
	}
	whole := append(slices.Clone(everyKindFrames), before...)
	checkRead(t, []string{everyKind + text}, whole, want)
	checkRead(t, []string{everyKind + good, last, "", everyKind, "\x08", "\x00\x00", "\x02\x01\x00"}, whole, want)
}

// A number of four bytes whose last has its highest bit set is wrong only when a fifth comes.
func TestReadWaitsForTheFifthByte(t *testing.T) {
	checkRead(t, []string{"\x00\xff\xff\xff\xff"}, nil, link.OK)
	checkRead(t, []string{"\x00\x01\xff\xff\xff\xff"}, nil, link.OK)
	checkRead(t, []string{"\x05\xff"}, nil, link.OK)
}

func TestReadLimits(t *testing.T) {
	for kind, k := range kindTable {
		for length := range 80 {
			head := string([]byte{byte(kind), byte(k.streamFrom), byte(length)})
			want := link.OK
			if length > 64 {
				want = link.ErrLarge
			} else if length < k.lengthFrom || length > k.lengthTo {
				want = link.ErrPayload
			}
			r := link.NewReader()
			if _, e := r.Feed(head); e != want {
				t.Errorf("kind %d, length %d: %d, want %d", kind, length, e, want)
			}
		}
	}
}

func checkAgainstMachine(t *testing.T, s string) {
	t.Helper()
	want, wantErr := wantRead(s)
	checkRead(t, []string{s}, want, wantErr)
	checkRead(t, oneByOne(s), want, wantErr)
}

// All short texts of some bytes that matter.
func TestReadShortTexts(t *testing.T) {
	const letters = "\x00\x01\x02\x03\x04\x05\x07\x08\x40\x41\x80\x81\xff"
	texts := []string{""}
	for range 4 {
		var longer []string
		for _, s := range texts {
			for _, b := range []byte(letters) {
				longer = append(longer, s+string([]byte{b}))
			}
		}
		texts = longer
		for _, s := range texts {
			checkAgainstMachine(t, s)
		}
	}
}

func TestReadThrownTexts(t *testing.T) {
	d := dice(7)
	for range 5000 {
		s := ""
		for range 1 + d.below(12) {
			s += d.frameText()
		}
		s = s[:len(s)-d.below(3)]
		checkAgainstMachine(t, s)
		i := d.below(len(s) + 1)
		want, wantErr := wantRead(s)
		checkRead(t, []string{s[:i], s[i:]}, want, wantErr)
	}
}
