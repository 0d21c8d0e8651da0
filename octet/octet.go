// Package octet is layer 1: integers and strings as bytes, and a Reader that never reads past their end. See shared/doc/01-octet.md.
package octet

import "posthouse/api"

// never is a count of bytes that no reader has left: to take so many makes a reader bad.
const never = -1

// Put returns b followed by n as an integer of that width; if there is no such width, b alone.
func Put(b []byte, n uint64, width int) []byte {
	return joined(b, digits(n, width)...)
}

// PutText returns b followed by s as a string of that width.
func PutText(b []byte, s string, width int) ([]byte, api.Errno) {
	if !isTextWidth(width) {
		return nil, api.ErrArg
	}
	length := uint64(len(s))
	if length>>(8*width) != 0 {
		return nil, api.ErrLong
	}
	return joined(b, append(digits(length, width), s...)...), api.OK
}

// joined copies even where b has room for more, since that room is its owner's.
func joined(b []byte, more ...byte) []byte {
	out := make([]byte, 0, len(b)+len(more))
	out = append(out, b...)
	return append(out, more...)
}

// digits returns the lowest bytes of n, as many as the width says, or none: a width's own bytes stand ahead of those of the next lower one.
func digits(n uint64, width int) []byte {
	var out []byte
	switch width {
	case 8:
		out = append(out, byte(n>>56), byte(n>>48), byte(n>>40), byte(n>>32))
		fallthrough
	case 4:
		out = append(out, byte(n>>24), byte(n>>16))
		fallthrough
	case 2:
		out = append(out, byte(n>>8))
		fallthrough
	case 1:
		out = append(out, byte(n))
	}
	return out
}

func isTextWidth(width int) bool {
	return width == 1 || width == 2 || width == 4
}

func isWidth(width int) bool {
	return width == 8 || isTextWidth(width)
}

// view is the bytes that are left. It is good only if Open made it, so that a zero Reader is as bad as a nil one.
type view struct {
	left []byte
	good bool
}

func (v *view) size() int { return len(v.left) }

// cut returns the next n bytes as new memory; if they aren't there, nothing is left of the view.
func (v *view) cut(n int) []byte {
	if n < 0 || n > len(v.left) {
		*v = view{}
		return nil
	}
	out := joined(v.left[:n])
	v.left = v.left[n:]
	return out
}

// Reader decodes bytes from their start on, until it is asked for something that is not there.
type Reader struct{ view }

// Open returns a Reader over a copy of b, so that b may change later.
func Open(b []byte) *Reader {
	return &Reader{view{left: joined(b), good: true}}
}

// Left returns how many bytes are left.
func (r *Reader) Left() int {
	if r.Bad() {
		return 0
	}
	return r.size()
}

// Bad reports whether something was asked for that was not there, or the reader is none that Open returned.
func (r *Reader) Bad() bool { return r == nil || !r.good }

// Take returns the next n bytes.
func (r *Reader) Take(n int) []byte {
	if r.Bad() {
		return nil
	}
	return r.cut(n)
}

// Num returns the next integer of that width.
func (r *Reader) Num(width int) uint64 {
	if !isWidth(width) {
		width = never
	}
	var n uint64
	for _, digit := range r.Take(width) {
		n = n<<8 | uint64(digit)
	}
	return n
}

// Text returns the next string of that width, if it has at most most bytes.
func (r *Reader) Text(width, most int) string {
	if !isTextWidth(width) {
		width = never
	}
	length := r.Num(width)
	// Compared before it is an int: one of 32 bits doesn't hold all lengths of width 4.
	if most < 0 || length > uint64(most) {
		return string(r.Take(never))
	}
	return string(r.Take(int(length)))
}
