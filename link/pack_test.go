package link_test

import (
	"math"
	"strings"
	"testing"

	"link/link"
)

func checkPack(t *testing.T, kind, stream int, data, want string, wantErr link.Errno) {
	t.Helper()
	got, e := link.Pack(link.Frame{Kind: kind, Stream: stream, Data: data})
	if got != want || e != wantErr {
		t.Errorf("Pack {%d %d %q}: %q %d, want %q %d", kind, stream, data, got, e, want, wantErr)
	}
}

func TestPackOrdinary(t *testing.T) {
	checkPack(t, 0, 1, "", "\x00\x01\x00", link.OK)
	checkPack(t, 0, 3, "block", "\x00\x03\x05block", link.OK)
	checkPack(t, 1, 3, "body", "\x01\x03\x04body", link.OK)
	checkPack(t, 2, 3, "", "\x02\x03\x00", link.OK)
	checkPack(t, 2, 300, "end", "\x02\xac\x02\x03end", link.OK)
	checkPack(t, 3, 2, "\x00", "\x03\x02\x01\x00", link.OK)
	checkPack(t, 4, 0, "\x64", "\x04\x00\x01\x64", link.OK)
	checkPack(t, 4, 2, "\xc8\x01", "\x04\x02\x02\xc8\x01", link.OK)
	checkPack(t, 5, 0, "12345678", "\x05\x00\x0812345678", link.OK)
	checkPack(t, 6, 0, "\x00\x80\xff\n\t xy", "\x06\x00\x08\x00\x80\xff\n\t xy", link.OK)
	checkPack(t, 7, 0, "\x00", "\x07\x00\x01\x00", link.OK)
}

func TestPackHeadTakesAnyBytes(t *testing.T) {
	for b := range 256 {
		data := string([]byte{byte(b), 0, 255, byte(b)})
		checkPack(t, 0, 1, data, "\x00\x01\x04"+data, link.OK)
	}
}

func TestPackNumberEdges(t *testing.T) {
	for _, n := range edgeNumbers {
		checkPack(t, 4, n.n, "\x01", "\x04"+n.wire+"\x01\x01", link.OK)
		checkPack(t, 4, 0, n.wire, "\x04\x00"+string(rune(len(n.wire)))+n.wire, link.OK)
	}
	for _, n := range []int{-1, -128, 268435456, math.MinInt32, math.MaxInt32, math.MinInt, math.MaxInt} {
		for kind := range 8 {
			checkPack(t, kind, n, "12345678", "", link.ErrNumber)
		}
	}
}

func TestPackKinds(t *testing.T) {
	for _, kind := range []int{-1, 8, 9, 127, 128, 255, 256, 257, math.MinInt, math.MaxInt} {
		checkPack(t, kind, 1, "x", "", link.ErrKind)
	}
}

// Every kind with each stream and length that the table tells apart.
func TestPackStreamsAndLengths(t *testing.T) {
	for kind := range 8 {
		for _, stream := range []int{-1, 0, 1, 2, 127, 128, 268435455, 268435456} {
			for length := range 70 {
				for _, data := range []string{strings.Repeat("x", length), strings.Repeat("\xff", max(length-1, 0)) + "\x7f"} {
					f := link.Frame{Kind: kind, Stream: stream, Data: data}
					s, e := link.Pack(f)
					if e != wantPack(f) {
						t.Fatalf("Pack %+v: %d, want %d", f, e, wantPack(f))
					}
					if e != link.OK && s != "" || e == link.OK && !strings.HasSuffix(s, data) {
						t.Fatalf("Pack %+v: %q %d", f, s, e)
					}
				}
			}
		}
	}
}

func TestPackWrongNumbersAsPayload(t *testing.T) {
	for _, kind := range []int{3, 4, 7} {
		stream := kindTable[kind].streamFrom
		for _, data := range []string{
			"", "\x80", "\xff\xff", "\x80\x80\x80", "\x80\x80\x80\x80", // ends too early
			"\x80\x00", "\x80\x80\x00", "\xff\xff\xff\x00", // the last of several is 0
			"\x80\x80\x80\x80\x01", "\xff\xff\xff\xff\x7f", // five bytes
			"\x00\x00", "\x01\x01", "\x80\x01\x01", "\x80\x01\x80\x01", // more than one number
			strings.Repeat("\x01", 64),
		} {
			checkPack(t, kind, stream, data, "", link.ErrPayload)
		}
	}
}

// Where several errors apply, the one that is named first.
func TestPackFirstError(t *testing.T) {
	large := strings.Repeat("x", 65)
	checkPack(t, 8, -1, large, "", link.ErrKind)
	checkPack(t, -1, 0, large, "", link.ErrKind)
	checkPack(t, 0, -1, large, "", link.ErrNumber)
	checkPack(t, 5, 268435456, large, "", link.ErrNumber)
	checkPack(t, 0, 0, large, "", link.ErrStream)
	checkPack(t, 7, 1, large, "", link.ErrStream)
	checkPack(t, 1, 0, "", "", link.ErrStream)
	checkPack(t, 3, 0, "\x80", "", link.ErrStream)
	checkPack(t, 0, 1, large, "", link.ErrLarge)
	checkPack(t, 1, 1, large, "", link.ErrLarge)
	checkPack(t, 2, 1, large, "", link.ErrLarge)
	checkPack(t, 3, 1, large, "", link.ErrLarge)
	checkPack(t, 4, 1, large, "", link.ErrLarge)
	checkPack(t, 5, 0, large, "", link.ErrLarge)
	checkPack(t, 6, 0, large, "", link.ErrLarge)
	checkPack(t, 7, 0, large, "", link.ErrLarge)
	checkPack(t, 1, 1, large[:64], "", link.ErrPayload)
}
