package link

// row is frames that wait to be sent. It is a chain, so that a frame is let go of when it is taken, however many wait behind it.
type row struct{ first, last *waiting }

type waiting struct {
	frame Frame
	next  *waiting
}

// put puts a frame behind the others.
func (r *row) put(f Frame) {
	w := &waiting{frame: f}
	if r.first == nil {
		r.first = w
	} else {
		r.last.next = w
	}
	r.last = w
}

// take takes the frame that waits longest, if there is one.
func (r *row) take(gather func(Frame)) bool {
	if r.first == nil {
		return false
	}
	gather(r.first.frame)
	r.first = r.first.next
	if r.first == nil {
		r.last = nil
	}
	return true
}
