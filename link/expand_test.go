package link_test

import (
	"slices"
	"strings"
	"testing"

	"link/link"
)

// checkNoBlock asks for an error and its place, and that the table is as it was.
func checkNoBlock(t *testing.T, table *link.Table, block string, wantErr link.Errno, wantAt int) {
	t.Helper()
	before := table.Entries()
	got, e, at := table.Expand(block)
	if len(got) != 0 || e != wantErr || at != wantAt {
		t.Fatalf("Expand %q: %q %d %d, want %d %d", block, got, e, at, wantErr, wantAt)
	}
	if after := table.Entries(); !slices.Equal(before, after) {
		t.Fatalf("Expand %q with error %d: entries %q, before %q", block, e, after, before)
	}
}

// usedTable has the entries 4 {c 3}, 5 {b 2}, 6 {a 1}.
func usedTable(t *testing.T) *link.Table {
	t.Helper()
	table := newTable(t, 100)
	checkExpand(t, table, write("a", "1")+write("b", "2")+write("c", "3"), "a", "1", "b", "2", "c", "3")
	return table
}

func TestExpandOrdinary(t *testing.T) {
	table := newTable(t, 100)
	checkExpand(t, table, "")
	checkExpand(t, table, "\x06\x00", "urgent", "no", "to", "")
	checkExpand(t, table, "\x01\x05topic\x03tea", "topic", "tea")
	checkExpand(t, table, "\x03\x02me\x09\x00\x0f\x03tea", "to", "me", "urgent", "", "topic", "tea")
	checkEntries(t, table, "topic", "tea", "urgent", "", "to", "me", "topic", "tea")
	checkExpand(t, table, "\x08\x0a\x0c\x0e", "topic", "tea", "urgent", "", "to", "me", "topic", "tea")
}

// What is put in counts for the parts behind it; an entry that is named is not put in again.
func TestExpandCountsWhatIsPutIn(t *testing.T) {
	table := newTable(t, 100)
	checkExpand(t, table, write("a", "1")+"\x08"+write("b", "2")+"\x0a\x08\x0d\x013", "a", "1", "a", "1", "b", "2", "a", "1", "b", "2", "a", "3")
	checkEntries(t, table, "a", "3", "b", "2", "a", "1")
}

// A header that an entry has already is put in all the same, if it is written out.
func TestExpandPutsInTwice(t *testing.T) {
	table := newTable(t, 100)
	checkExpand(t, table, write("kind", "text")+"\x05\x04call\x03\x00"+write("a", "1")+write("a", "1"), "kind", "text", "kind", "call", "to", "", "a", "1", "a", "1")
	checkEntries(t, table, "a", "1", "a", "1", "to", "", "kind", "call", "kind", "text")
}

// An entry that a part's own header puts out gives its name all the same; behind it, it is gone.
func TestExpandPutsOut(t *testing.T) {
	table := newTable(t, 12)
	checkExpand(t, table, write("a", "1")+write("b", "2"), "a", "1", "b", "2")
	checkExpand(t, table, "\x0d\x013\x0a", "a", "3", "b", "2")
	checkEntries(t, table, "a", "3", "b", "2")
	checkNoBlock(t, table, "\x0a\x0c", link.ErrBlock, 1)
	checkNoBlock(t, table, "\x0d\x209"+strings.Repeat("v", 31)+"\x08", link.ErrBlock, 34)
	checkExpand(t, table, "\x0d\x209"+strings.Repeat("v", 31), "b", "9"+strings.Repeat("v", 31))
	checkEntries(t, table)
}

// Every number of one byte: entries that are there, and those that are not.
func TestExpandNumbersOfEntries(t *testing.T) {
	all := pairs("to", "", "kind", "text", "kind", "call", "urgent", "no", "c", "3", "b", "2", "a", "1")
	for n := range 128 {
		s := string(rune(n))
		switch i := n / 2; {
		case n == 1:
			checkExpand(t, usedTable(t), s+"\x01z\x02ok", "z", "ok")
		case n%2 == 0 && i < len(all):
			checkExpand(t, usedTable(t), s, all[i].Name, all[i].Value)
		case n%2 == 1 && i-1 < len(all):
			checkExpand(t, usedTable(t), s+"\x02ok", all[i-1].Name, "ok")
		default:
			checkNoBlock(t, usedTable(t), s, link.ErrBlock, 0)
			checkNoBlock(t, usedTable(t), s+"\x02ok", link.ErrBlock, 0)
			checkNoBlock(t, usedTable(t), "\x00\x02"+s+"\x00", link.ErrBlock, 2)
		}
	}
}

// fronts are blocks behind which a number must come: of a part, a name's length, a value's length (twice).
var fronts = []string{"\x08", "\x01", "\x01\x01a", "\x03"}

// A number of several bytes names no entry and is no length: that is told by its last byte.
func TestExpandLongNumbers(t *testing.T) {
	for _, n := range edgeNumbers[3:] {
		for _, front := range fronts {
			checkNoBlock(t, usedTable(t), front+n.wire, link.ErrBlock, len(front)+len(n.wire)-1)
			checkNoBlock(t, usedTable(t), front+n.wire+"\x00abc", link.ErrBlock, len(front)+len(n.wire)-1)
			for cut := 1; cut < len(n.wire); cut++ {
				checkNoBlock(t, usedTable(t), front+n.wire[:cut], link.ErrBlock, len(front)+cut)
			}
		}
	}
}

// A last byte of several that is 0, and a fifth one.
func TestExpandWrongNumbers(t *testing.T) {
	for _, front := range fronts {
		for n := 1; n <= 3; n++ {
			number := strings.Repeat("\x81", n) + "\x00"
			checkNoBlock(t, usedTable(t), front+number, link.ErrBlock, len(front)+n)
			checkNoBlock(t, usedTable(t), front+number+"\x00\x00", link.ErrBlock, len(front)+n)
		}
		for _, fifth := range []string{"", "\x00", "\x01", "\x80", "\xff\xff\xff"} {
			checkNoBlock(t, usedTable(t), front+"\x80\x80\x80\x80"+fifth, link.ErrBlock, len(front)+4)
			checkNoBlock(t, usedTable(t), front+"\xff\xff\xff\xff"+fifth, link.ErrBlock, len(front)+4)
		}
	}
}

func TestExpandLengths(t *testing.T) {
	for n := range 128 {
		text := string(rune(n)) + strings.Repeat("t", n)
		if n >= 1 && n <= 16 {
			checkExpand(t, usedTable(t), "\x01"+text+"\x00", text[1:], "")
		} else {
			checkNoBlock(t, usedTable(t), "\x01"+text+"\x00", link.ErrBlock, 1)
			checkNoBlock(t, usedTable(t), "\x01"+text[:1], link.ErrBlock, 1)
		}
		if n <= 32 {
			checkExpand(t, usedTable(t), "\x03"+text, "to", text[1:])
			checkExpand(t, usedTable(t), "\x01\x01z"+text, "z", text[1:])
		} else {
			checkNoBlock(t, usedTable(t), "\x03"+text, link.ErrBlock, 1)
			checkNoBlock(t, usedTable(t), "\x01\x01z"+text, link.ErrBlock, 3)
			checkNoBlock(t, usedTable(t), "\x01\x01z"+text[:1], link.ErrBlock, 3)
		}
	}
}

// Every byte, at every place of a name and of a value: that which can't stand there is the place, however much is missing behind it.
func TestExpandBytes(t *testing.T) {
	for b := range 256 {
		for at := range 3 {
			text := []byte("aaa")
			text[at] = byte(b)
			s := string(text)
			if b >= 'a' && b <= 'z' || b == '-' {
				checkExpand(t, usedTable(t), "\x01\x03"+s+"\x00", s, "")
			} else {
				checkNoBlock(t, usedTable(t), "\x01\x03"+s+"\x00", link.ErrBlock, 2+at)
				checkNoBlock(t, usedTable(t), "\x01\x10"+s, link.ErrBlock, 2+at)
			}
			if b >= 32 && b <= 126 {
				checkExpand(t, usedTable(t), "\x03\x03"+s, "to", s)
			} else {
				checkNoBlock(t, usedTable(t), "\x03\x03"+s+"\x00", link.ErrBlock, 2+at)
				checkNoBlock(t, usedTable(t), "\x03\x20"+s, link.ErrBlock, 2+at)
			}
		}
	}
}

// A block that ends within a part ends too early; one that ends between two does not.
func TestExpandEndsTooEarly(t *testing.T) {
	parts := []string{write("name", "value"), "\x00", "\x03\x02me", "\x0a", write(strings.Repeat("n", 16), strings.Repeat("v", 32)), "\x0d\x00"}
	block := strings.Join(parts, "")
	ends := map[int]bool{0: true}
	for i := range parts {
		ends[len(strings.Join(parts[:i+1], ""))] = true
	}
	for cut := range len(block) + 1 {
		table := usedTable(t)
		if ends[cut] {
			if _, e, at := table.Expand(block[:cut]); e != link.OK || at != 0 {
				t.Errorf("cut at %d: %d %d", cut, e, at)
			}
			continue
		}
		checkNoBlock(t, table, block[:cut], link.ErrBlock, cut)
		checkEntries(t, table, "c", "3", "b", "2", "a", "1")
	}
}

// The part that is one too many is the place, and is not looked into; a fault ahead of it comes first.
func TestExpandHowMany(t *testing.T) {
	five := write("z", "1") + "\x00\x08\x03\x02me\x0a"
	checkExpand(t, usedTable(t), five+"\x06", "z", "1", "to", "", "z", "1", "to", "me", "z", "1", "urgent", "no")
	six := five + "\x06"
	for _, more := range []string{"\x00", "\x01", "\x01\x00", "\x7e", "\x7f", "\x80", "\x80\x00", "\xff\xff\xff\xff\xff", "\x00\x00", write("y", "2"), strings.Repeat("\xff", 1<<20), strings.Repeat("\x00", 1<<20)} {
		checkNoBlock(t, usedTable(t), six+more, link.ErrMany, len(six))
		checkNoBlock(t, newTable(t, 0), "\x00\x00\x00\x00\x00\x00"+more, link.ErrMany, 6)
		checkNoBlock(t, usedTable(t), five+"\x7e"+more, link.ErrBlock, len(five))
	}
	checkNoBlock(t, usedTable(t), "\x00\x00\x00\x00\x00\x80\x00\x00", link.ErrBlock, 6)
	checkNoBlock(t, usedTable(t), "\x00\x00\x00\x00\x00\x01\x01z", link.ErrBlock, 8)
	checkNoBlock(t, usedTable(t), "\x7e\x00\x00\x00\x00\x00\x00\x00", link.ErrBlock, 0)
}

// A table goes on behind an error as if the block had not come.
func TestExpandGoesOnBehindAnError(t *testing.T) {
	table := usedTable(t)
	checkNoBlock(t, table, write("x", "1")+write("y", "2")+strings.Repeat(write("z", strings.Repeat("v", 32)), 3)+"\x7e", link.ErrBlock, 118)
	checkNoBlock(t, table, strings.Repeat(write("z", strings.Repeat("v", 32)), 7), link.ErrMany, 216)
	checkExpand(t, table, "\x08\x0a\x0c", "c", "3", "b", "2", "a", "1")
	checkSqueeze(t, table, pairs("x", "1", "a", "1"), "\x01\x01x\x011\x0e", link.OK, 0)
	checkEntries(t, table, "x", "1", "c", "3", "b", "2", "a", "1")
	// The errors took no room: this fits only if what weighs is what is told.
	checkExpand(t, table, write("y", strings.Repeat("v", 32))+write("z", strings.Repeat("v", 30)), "y", strings.Repeat("v", 32), "z", strings.Repeat("v", 30))
	if n := len(table.Entries()); n != 6 {
		t.Errorf("%d entries: %q", n, table.Entries())
	}
}
