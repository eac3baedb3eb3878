package link

// Table squeezes headers. Make it by NewTable.
type Table struct{}

// NewTable makes a table (P5).
func NewTable(bound int) (*Table, Errno) { return nil, 0 }

// Squeeze makes a block (P6).
func (t *Table) Squeeze(l []Header) (string, Errno, int) { return "", 0, 0 }

// Expand reads a block (P7).
func (t *Table) Expand(block string) ([]Header, Errno, int) { return nil, 0, 0 }

// Entries tells what was put in (P5).
func (t *Table) Entries() []Header { return nil }
