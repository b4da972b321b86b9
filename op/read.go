package op

import (
	"strings"

	"leafbinder/api"
)

// reader takes bytes, from the first one on. What can't be read ends the whole
// reading, however deep in it, by a panic with an api.Errno: whoever begins a
// reading defers told.
type reader struct{ rest string }

// told gives the error of a reading that was ended by what was caught, if
// anything was.
func told(caught any) error {
	switch fault := caught.(type) {
	case nil:
		return nil
	case api.Errno:
		return fault
	default:
		// No call panics: bytes that can't be read are none of their form,
		// whatever it was that ended the reading.
		return api.ErrSyntax
	}
}

func readOp(b string) api.Op {
	r := reader{rest: b}
	o := api.Op{What: r.one()}
	o.Dot = r.dot()
	// A place of its own does not hold on to all of the bytes.
	o.Place = strings.Clone(r.take(r.one()))
	switch o.What {
	case api.Write:
		o.Letter = r.one()
	case api.Join:
		for range r.one() {
			o.Seen = append(o.Seen, r.dot())
		}
	}
	// An op that is wrong has no bytes, and other ones than its own (another
	// sum, something behind it) are none of an op.
	if own, err := Encode(o); err != nil || own != b {
		panic(api.ErrSyntax)
	}
	return o
}

func readOps(b string) []api.Op {
	r := reader{rest: b}
	n := r.two()
	if n > api.MaxOps {
		panic(api.ErrSyntax)
	}
	var l []api.Op
	for range n {
		l = append(l, readOp(r.take(r.two())))
	}
	if r.rest != "" {
		panic(api.ErrSyntax)
	}
	return l
}

func (r *reader) take(n int) string {
	if n > len(r.rest) {
		panic(api.ErrSyntax)
	}
	taken := r.rest[:n]
	r.rest = r.rest[n:]
	return taken
}

func (r *reader) one() int { return int(r.take(1)[0]) }

func (r *reader) two() int {
	high := r.one()
	return high<<byteBits | r.one()
}

func (r *reader) dot() api.Dot {
	who := r.one()
	return api.Dot{Who: who, N: r.two()}
}
