package link_test

import (
	"slices"
	"strings"
	"testing"

	"link/link"
)

// Two tables of one bound stay alike, if one expands what the other squeezes.
func TestTablesStayAlike(t *testing.T) {
	for bound := 0; bound <= 200; bound += 5 {
		d := dice(bound)
		a, b := newTable(t, bound), newTable(t, bound)
		for range 200 {
			l := d.headerList()
			block, e, _ := a.Squeeze(l)
			if e != link.OK {
				continue
			}
			if got, e, at := b.Expand(block); !slices.Equal(got, l) || e != link.OK || at != 0 {
				t.Fatalf("bound %d: %q became %q, %q %d %d", bound, l, block, got, e, at)
			}
			if !slices.Equal(a.Entries(), b.Entries()) {
				t.Fatalf("bound %d: entries %q and %q", bound, a.Entries(), b.Entries())
			}
		}
	}
}

// Whatever is squeezed and expanded, the table does as the model does.
func TestTableAgainstModel(t *testing.T) {
	for _, bound := range []int{0, 4, 5, 6, 13, 30, 52, 60, 100, 199, 200} {
		d := dice(bound + 1000)
		table, model := newTable(t, bound), newTableModel(bound)
		for range 4000 {
			if d.below(3) == 0 {
				l := d.headerList()
				want, wantErr, wantAt := model.squeeze(l)
				checkSqueeze(t, table, l, want, wantErr, wantAt)
			} else {
				checkExpandAgainstModel(t, table, model, d.blockText())
			}
			if got := table.Entries(); !slices.Equal(got, model.entries[4:]) {
				t.Fatalf("bound %d: entries %q, want %q", bound, got, model.entries[4:])
			}
		}
	}
}

func checkExpandAgainstModel(t *testing.T, table *link.Table, model *tableModel, block string) {
	t.Helper()
	want, wantErr, wantAt := model.expand(block)
	got, e, at := table.Expand(block)
	if !slices.Equal(got, want) || e != wantErr || at != wantAt {
		t.Fatalf("Expand %q: %q %d %d, want %q %d %d", block, got, e, at, want, wantErr, wantAt)
	}
}

// P1: whatever bytes come, there is an answer, and it is the model's.
func TestExpandAnswersAlways(t *testing.T) {
	d := dice(7)
	table, model := newTable(t, 60), newTableModel(60)
	for range 100000 {
		b := make([]byte, d.below(12))
		for i := range b {
			b[i] = byte(d.below(1 + d.below(1+d.below(256))))
		}
		checkExpandAgainstModel(t, table, model, string(b))
	}
	if !slices.Equal(table.Entries(), model.entries[4:]) {
		t.Fatalf("entries %q, want %q", table.Entries(), model.entries[4:])
	}
}

// P2: tables share nothing, not even those that had the same calls.
func TestTablesShareNothing(t *testing.T) {
	a, b, c := newTable(t, 100), newTable(t, 100), newTable(t, 100)
	a.Squeeze(pairs("a", "1", "b", "2"))
	b.Expand(write("a", "1") + write("b", "2"))
	checkEntries(t, c)
	a.Squeeze(pairs("c", "3"))
	checkEntries(t, b, "b", "2", "a", "1")
	b.Expand(write("d", "4"))
	checkEntries(t, a, "c", "3", "b", "2", "a", "1")
	checkEntries(t, b, "d", "4", "b", "2", "a", "1")
	checkEntries(t, c)
	again := newTable(t, 100)
	checkSqueeze(t, again, pairs("a", "1"), "\x01\x01a\x011", link.OK, 0)
}

// P2: headers that were answered are the caller's: the table does not see what becomes of them.
func TestHeadersAreTheCallers(t *testing.T) {
	table := newTable(t, 100)
	first, _, _ := table.Expand(write("a", "1") + "\x08\x00" + write("b", "2"))
	for i := range first {
		first[i] = link.Header{Name: "spoilt"}
	}
	checkEntries(t, table, "b", "2", "a", "1")
	checkExpand(t, table, "\x08\x0a\x00", "b", "2", "a", "1", "to", "")
	if first[0].Name != "spoilt" || len(first) != 4 {
		t.Errorf("an answer was written over: %q", first)
	}
}

// P2: names, values and blocks that were handed in are not kept, and no answer is a part of them.
func TestTextsHandedInAreNotKept(t *testing.T) {
	table := newTable(t, 100)
	var block string
	lent("name", func(name string) {
		lent("value", func(value string) {
			block, _, _ = table.Squeeze(pairs(name, value, "kind", value, name, "x"))
		})
	})
	if block != "\x01\x04name\x05value\x05\x05value\x0d\x01x" {
		t.Fatalf("%q", block)
	}
	checkEntries(t, table, "name", "x", "kind", "value", "name", "value")
	var l []link.Header
	lent("\x08"+write("topic", "tea")+"\x0f\x03cup", func(block string) { l, _, _ = table.Expand(block) })
	if !slices.Equal(l, pairs("name", "x", "topic", "tea", "kind", "cup")) {
		t.Fatalf("%q", l)
	}
	checkEntries(t, table, "kind", "cup", "topic", "tea", "name", "x", "kind", "value", "name", "value")
	mine := pairs("list", "1")
	table.Squeeze(mine)
	mine[0] = link.Header{Name: "spoilt"}
	if table.Entries()[0] != (link.Header{Name: "list", Value: "1"}) {
		t.Errorf("%q", table.Entries())
	}
}

// A table keeps no more than its entries, whatever went through it.
func TestTableKeepsLittle(t *testing.T) {
	checkKeepLittle(t, func(_, size int) any {
		table := newTable(t, 100)
		value := strings.Repeat("v", size)
		table.Squeeze(pairs("a", value[:8], "b", value[:32]))
		table.Squeeze(pairs("a", value))
		block := write("c", "1") + write("d", "2")
		table.Expand((block + strings.Repeat("\x00", size))[:len(block)])
		table.Expand(strings.Repeat("\x00", size))
		return table
	})
}
