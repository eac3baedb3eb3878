package link

import "strings"

const (
	maxName     = 16
	maxValue    = 32
	maxHeaders  = 6
	entryWeight = 4 // what an entry weighs beside its bytes
)

// weight is what a header weighs as an entry.
func (h Header) weight() int { return len(h.Name) + len(h.Value) + entryWeight }

func (h Header) clone() Header { return Header{strings.Clone(h.Name), strings.Clone(h.Value)} }

// rule is what is asked of a name or of a value.
type rule struct {
	length span
	allows func(byte) bool
}

func nameRule() rule { return rule{span{1, maxName}, isNameByte} }

func valueRule() rule { return rule{span{0, maxValue}, isValueByte} }

func isNameByte(b byte) bool { return 'a' <= b && b <= 'z' || b == '-' }

func isValueByte(b byte) bool { return 32 <= b && b <= 126 }

// fits asks the length first, so that a text of any length is soon answered.
func (r rule) fits(s string) bool {
	if !r.length.holds(len(s)) {
		return false
	}
	for i := range len(s) {
		if !r.allows(s[i]) {
			return false
		}
	}
	return true
}

// askHeaders tells whether a list can be squeezed, and if not, why and at which header.
func askHeaders(l []Header) (Errno, int) {
	if len(l) > maxHeaders {
		return ErrMany, 0
	}
	for i, h := range l {
		if !nameRule().fits(h.Name) || !valueRule().fits(h.Value) {
			return ErrHeader, i
		}
	}
	return OK, 0
}
