package link

// SkipTo makes as if all streams ahead of these had begun and ended: no test has the time to let them.
func (e *End) SkipTo(own, other int) { e.out.next, e.in.next = own, other }
