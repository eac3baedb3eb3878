package link_test

import (
	"math"
	"slices"
	"strings"
	"testing"

	"link/link"
)

// pairs makes headers of names and values.
func pairs(l ...string) []link.Header {
	var out []link.Header
	for i := 0; i < len(l); i += 2 {
		out = append(out, link.Header{Name: l[i], Value: l[i+1]})
	}
	return out
}

func newTable(t *testing.T, bound int) *link.Table {
	t.Helper()
	table, e := link.NewTable(bound)
	if table == nil || e != link.OK {
		t.Fatalf("NewTable %d: %v %d", bound, table, e)
	}
	return table
}

// write writes a part with a name and a value.
func write(name, value string) string {
	return "\x01" + string(rune(len(name))) + name + string(rune(len(value))) + value
}

func checkEntries(t *testing.T, table *link.Table, want ...string) {
	t.Helper()
	if got := table.Entries(); !slices.Equal(got, pairs(want...)) {
		t.Fatalf("entries %q, want %q", got, pairs(want...))
	}
}

func checkSqueeze(t *testing.T, table *link.Table, l []link.Header, want string, wantErr link.Errno, wantAt int) {
	t.Helper()
	got, e, at := table.Squeeze(l)
	if got != want || e != wantErr || at != wantAt {
		t.Fatalf("Squeeze %q: %q %d %d, want %q %d %d", l, got, e, at, want, wantErr, wantAt)
	}
}

func checkExpand(t *testing.T, table *link.Table, block string, want ...string) {
	t.Helper()
	got, e, at := table.Expand(block)
	if !slices.Equal(got, pairs(want...)) || e != link.OK || at != 0 {
		t.Fatalf("Expand %q: %q %d %d, want %q", block, got, e, at, pairs(want...))
	}
}

func TestTableBounds(t *testing.T) {
	for _, bound := range []int{math.MinInt, -201, -1, 201, 202, 256, math.MaxInt} {
		if table, e := link.NewTable(bound); table != nil || e != link.ErrRange {
			t.Errorf("NewTable %d: %v %d", bound, table, e)
		}
	}
	for bound := 0; bound <= 200; bound++ {
		table := newTable(t, bound)
		checkEntries(t, table)
		checkExpand(t, table, "\x00\x02\x04\x06", "to", "", "kind", "text", "kind", "call", "urgent", "no")
		checkEntries(t, table)
		if _, e, at := table.Expand("\x08"); e != link.ErrBlock || at != 0 {
			t.Errorf("bound %d: entry 4 is there at first: %d %d", bound, e, at)
		}
	}
}

// An entry weighs its bytes and 4: it stays in a table of just that bound, and in none of a lesser one.
func TestEntryThatJustFits(t *testing.T) {
	for _, h := range []link.Header{{Name: "a"}, {Name: "a", Value: "1"}, {Name: "to", Value: "x"}, {Name: "name", Value: "value"}, {Name: strings.Repeat("n", 16), Value: strings.Repeat("v", 32)}} {
		weight := len(h.Name) + len(h.Value) + 4
		for bound := 0; bound <= 200; bound++ {
			squeezed, expanded := newTable(t, bound), newTable(t, bound)
			squeezed.Squeeze([]link.Header{h})
			expanded.Expand(write(h.Name, h.Value))
			for _, table := range []*link.Table{squeezed, expanded} {
				if weight <= bound {
					checkEntries(t, table, h.Name, h.Value)
				} else {
					checkEntries(t, table)
				}
			}
		}
	}
}

func TestTableOfBoundNothing(t *testing.T) {
	table := newTable(t, 0)
	for range 3 {
		checkSqueeze(t, table, pairs("a", "1", "a", "1", "kind", "x", "kind", "text"), "\x01\x01a\x011\x01\x01a\x011\x05\x01x\x02", link.OK, 0)
		checkExpand(t, table, "\x01\x01a\x00\x03\x00", "a", "", "to", "")
		checkEntries(t, table)
	}
}

// The oldest go, as many as must, and no more.
func TestOldestArePutOut(t *testing.T) {
	table := newTable(t, 30)
	for _, v := range []string{"1", "2", "3", "4", "5"} {
		table.Squeeze(pairs("a", v))
	}
	checkEntries(t, table, "a", "5", "a", "4", "a", "3", "a", "2", "a", "1")
	table.Squeeze(pairs("a", "6"))
	checkEntries(t, table, "a", "6", "a", "5", "a", "4", "a", "3", "a", "2")
	table.Squeeze(pairs("b", "2"))
	checkEntries(t, table, "b", "2", "a", "6", "a", "5", "a", "4", "a", "3")
	table.Squeeze(pairs("b", "seventh"))
	checkEntries(t, table, "b", "seventh", "b", "2", "a", "6", "a", "5")
	table.Squeeze(pairs("name", "fourteen bytes"))
	checkEntries(t, table, "name", "fourteen bytes")
	table.Squeeze(pairs("c", "123"))
	checkEntries(t, table, "c", "123", "name", "fourteen bytes")
	table.Squeeze(pairs("name", strings.Repeat("v", 22)))
	checkEntries(t, table, "name", strings.Repeat("v", 22))
	table.Squeeze(pairs("name", strings.Repeat("w", 23)))
	checkEntries(t, table)
	table.Squeeze(pairs("a", "1"))
	checkEntries(t, table, "a", "1")
}

func TestTableOfTheGreatestBound(t *testing.T) {
	table := newTable(t, 200)
	var want []string
	for i := range 41 {
		name := string(rune('a' + i%26))
		if i >= 26 {
			name = "-"
		}
		table.Expand(write(name, ""))
		want = append([]string{name, ""}, want...)
	}
	checkEntries(t, table, want[:80]...)
	checkExpand(t, table, "\x08\x56\x59\x00", "-", "", "b", "", "b", "")
}

// A list of entries is the caller's, and is not written to when more are put in.
func TestEntriesAreTheCallers(t *testing.T) {
	table := newTable(t, 100)
	table.Squeeze(pairs("a", "1", "b", "2"))
	mine := table.Entries()
	mine[0], mine[1] = link.Header{Name: "x"}, link.Header{Name: "y"}
	_ = append(mine[:1], link.Header{Name: "z"})
	checkEntries(t, table, "b", "2", "a", "1")
	theirs := table.Entries()
	table.Squeeze(pairs("c", strings.Repeat("v", 32), "d", strings.Repeat("v", 32)))
	if !slices.Equal(theirs, pairs("b", "2", "a", "1")) {
		t.Errorf("an answer was written over: %q", theirs)
	}
	checkEntries(t, table, "d", strings.Repeat("v", 32), "c", strings.Repeat("v", 32), "b", "2", "a", "1")
}
