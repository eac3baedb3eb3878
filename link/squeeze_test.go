package link_test

import (
	"slices"
	"strings"
	"testing"

	"link/link"
)

func TestSqueezeFirstEntries(t *testing.T) {
	table := newTable(t, 100)
	checkSqueeze(t, table, pairs("to", ""), "\x00", link.OK, 0)
	checkSqueeze(t, table, pairs("urgent", "no", "kind", "call", "kind", "text", "to", "", "to", ""), "\x06\x04\x02\x00\x00", link.OK, 0)
	checkEntries(t, table)
}

// A header that is no entry takes the lowest entry of its name, and is put in.
func TestSqueezeNames(t *testing.T) {
	table := newTable(t, 200)
	checkSqueeze(t, table, pairs("to", "me"), "\x03\x02me", link.OK, 0)
	checkSqueeze(t, table, pairs("kind", "other"), "\x05\x05other", link.OK, 0)
	checkSqueeze(t, table, pairs("urgent", ""), "\x09\x00", link.OK, 0)
	checkSqueeze(t, table, pairs("topic", "tea"), "\x01\x05topic\x03tea", link.OK, 0)
	checkEntries(t, table, "topic", "tea", "urgent", "", "kind", "other", "to", "me")
	checkSqueeze(t, table, pairs("topic", "", "topic", "x"), "\x0b\x00\x0b\x01x", link.OK, 0)
	checkSqueeze(t, table, pairs("to", "you", "kind", "", "urgent", "yes"), "\x03\x03you\x05\x00\x09\x03yes", link.OK, 0)
}

// Each that is put in counts for the headers behind it, in the list and in later ones; its number grows as others come.
func TestSqueezeCountsWhatIsPutIn(t *testing.T) {
	table := newTable(t, 200)
	checkSqueeze(t, table, pairs("a", "1", "a", "1", "b", "1", "a", "1", "b", "2", "a", "1"), "\x01\x01a\x011\x08\x01\x01b\x011\x0a\x0b\x012\x0c", link.OK, 0)
	checkEntries(t, table, "b", "2", "b", "1", "a", "1")
	checkSqueeze(t, table, pairs("a", "1", "b", "1", "b", "2", "a", "2", "a", "1"), "\x0c\x0a\x08\x0f\x012\x0e", link.OK, 0)
}

// What was put out counts no more: neither its value nor its name.
func TestSqueezeForgetsWhatIsPutOut(t *testing.T) {
	table := newTable(t, 12)
	checkSqueeze(t, table, pairs("a", "1", "b", "1", "a", "1", "c", "1", "a", "1", "b", "1"), "\x01\x01a\x011\x01\x01b\x011\x0a\x01\x01c\x011\x01\x01a\x011\x01\x01b\x011", link.OK, 0)
	checkEntries(t, table, "b", "1", "a", "1")
	checkSqueeze(t, table, pairs("c", strings.Repeat("v", 32), "a", "1"), "\x01\x01c\x20"+strings.Repeat("v", 32)+"\x01\x01a\x011", link.OK, 0)
	checkEntries(t, table, "a", "1")
}

// Of several entries with the name and value the lowest is taken, and likewise of several with the name.
func TestSqueezeTakesTheLowest(t *testing.T) {
	table := newTable(t, 200)
	checkExpand(t, table, write("a", "1")+write("a", "2")+write("a", "1")+write("b", "1")+write("kind", "call"), "a", "1", "a", "2", "a", "1", "b", "1", "kind", "call")
	checkEntries(t, table, "kind", "call", "b", "1", "a", "1", "a", "2", "a", "1")
	checkSqueeze(t, table, pairs("a", "1", "a", "2", "kind", "call"), "\x0c\x0e\x04", link.OK, 0)
	checkSqueeze(t, table, pairs("a", "3"), "\x0f\x013", link.OK, 0)
	checkSqueeze(t, table, pairs("kind", "3"), "\x05\x013", link.OK, 0)
	// A name lower down does not go ahead of a whole entry above it.
	checkSqueeze(t, table, pairs("a", "2"), "\x12", link.OK, 0)
}

func TestSqueezeHowMany(t *testing.T) {
	table := newTable(t, 100)
	checkSqueeze(t, table, nil, "", link.OK, 0)
	checkSqueeze(t, table, []link.Header{}, "", link.OK, 0)
	six := pairs("to", "", "to", "", "to", "", "to", "", "to", "", "a", "1")
	checkSqueeze(t, table, six, "\x00\x00\x00\x00\x00\x01\x01a\x011", link.OK, 0)
	for _, n := range []int{7, 8, 1000000} {
		l := make([]link.Header, n)
		checkSqueeze(t, table, l, "", link.ErrMany, 0)
		for i := range l {
			l[i] = link.Header{Name: "b", Value: "2"}
		}
		checkSqueeze(t, table, l, "", link.ErrMany, 0)
		l[3] = link.Header{Name: "B"}
		checkSqueeze(t, table, l, "", link.ErrMany, 0)
	}
	checkEntries(t, table, "a", "1")
}

func TestSqueezeLengths(t *testing.T) {
	for n := range 40 {
		name, value := strings.Repeat("n", n), strings.Repeat("v", n)
		table := newTable(t, 200)
		if n >= 1 && n <= 16 {
			checkSqueeze(t, table, pairs(name, "x"), "\x01"+string(rune(n))+name+"\x01x", link.OK, 0)
		} else {
			checkSqueeze(t, table, pairs(name, "x"), "", link.ErrHeader, 0)
		}
		table = newTable(t, 200)
		if n <= 32 {
			checkSqueeze(t, table, pairs("x", value), "\x01\x01x"+string(rune(n))+value, link.OK, 0)
		} else {
			checkSqueeze(t, table, pairs("x", value), "", link.ErrHeader, 0)
		}
	}
	table := newTable(t, 200)
	checkSqueeze(t, table, pairs(strings.Repeat("n", 1<<20), ""), "", link.ErrHeader, 0)
	checkSqueeze(t, table, pairs("to", "", "x", strings.Repeat("v", 1<<20)), "", link.ErrHeader, 1)
}

// Every byte, alone, first, amid and last.
func TestSqueezeBytes(t *testing.T) {
	for b := range 256 {
		s := string([]byte{byte(b)})
		for _, text := range []string{s, s + "ab", "a" + s + "b", "ab" + s} {
			nameErr, valueErr := link.ErrHeader, link.ErrHeader
			if b >= 'a' && b <= 'z' || b == '-' {
				nameErr = link.OK
			}
			if b >= 32 && b <= 126 {
				valueErr = link.OK
			}
			if _, e, _ := newTable(t, 100).Squeeze(pairs(text, "x")); e != nameErr {
				t.Errorf("name %q: %d", text, e)
			}
			if _, e, _ := newTable(t, 100).Squeeze(pairs("x", text)); e != valueErr {
				t.Errorf("value %q: %d", text, e)
			}
		}
	}
}

// The place is the number of the first wrong header, and nothing was put in.
func TestSqueezeWrongHeader(t *testing.T) {
	spoilt := []link.Header{{}, {Name: "A"}, {Name: "a\x00"}, {Name: "é"}, {Name: strings.Repeat("n", 17)}, {Name: "a", Value: "\x1f"}, {Name: "a", Value: "\x7f"}, {Name: "to", Value: "é"}, {Name: "a", Value: strings.Repeat("v", 33)}}
	for _, h := range spoilt {
		for at := range 6 {
			table := newTable(t, 100)
			table.Squeeze(pairs("old", "1"))
			l := pairs("b", "1", "c", "2", "d", "3", "e", "4", "f", "5", "g", "6")
			l[at] = h
			checkSqueeze(t, table, l, "", link.ErrHeader, at)
			l[5] = link.Header{}
			checkSqueeze(t, table, l, "", link.ErrHeader, at)
			checkSqueeze(t, table, l[:at+1], "", link.ErrHeader, at)
			checkEntries(t, table, "old", "1")
		}
	}
}

func TestSqueezeLeavesTheListAlone(t *testing.T) {
	l := pairs("a", "1", "kind", "x", "a", "1", "to", "")
	kept := slices.Clone(l)
	newTable(t, 8).Squeeze(l)
	if !slices.Equal(l, kept) {
		t.Errorf("%q", l)
	}
}
