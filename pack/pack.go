// Package pack: how numbers, texts and flags stand as bytes: see DOC.md, P4 and P8.
package pack

// The bytes of a number.
const wide = 3

// AppendNumber puts a number behind b, the highest byte first.
func AppendNumber(b []byte, n int) []byte {
	return append(b, byte(n>>16), byte(n>>8), byte(n))
}

// AppendText puts a text behind b: its length in one byte, and its bytes.
func AppendText(b []byte, s string) []byte {
	return append(append(b, byte(len(s))), s...)
}

// AppendBlock puts bytes behind b that may be too many for a text: their count as a number, and they.
func AppendBlock(b []byte, s string) []byte {
	return append(AppendNumber(b, len(s)), s...)
}

// AppendFlag puts a byte behind b that tells yes (1) or no (0).
func AppendFlag(b []byte, yes bool) []byte {
	if yes {
		return append(b, 1)
	}
	return append(b, 0)
}

// Reader takes bytes apart, from their beginning. From the first part on that is not all there, or is none of its kind, it has nothing more to give: so it is enough to ask Done behind the last part.
type Reader struct {
	rest  string
	wrong bool
}

// NewReader makes one that stands at the beginning of s.
func NewReader(s string) *Reader { return &Reader{rest: s} }

// Byte takes one byte.
func (r *Reader) Byte() int {
	s := r.take(1)
	if r.wrong {
		return 0
	}
	return int(s[0])
}

// Number takes a number.
func (r *Reader) Number() int {
	s := r.take(wide)
	if r.wrong {
		return 0
	}
	return int(s[0])<<16 | int(s[1])<<8 | int(s[2])
}

// Text takes what AppendText put there; it is a piece of what the Reader was made of.
func (r *Reader) Text() string { return r.take(r.Byte()) }

// Block takes what AppendBlock put there; it is a piece of what the Reader was made of.
func (r *Reader) Block() string { return r.take(r.Number()) }

// Flag takes what AppendFlag put there: no other byte than 0 and 1 is one.
func (r *Reader) Flag() bool {
	n := r.Byte()
	if n > 1 {
		r.stop()
	}
	return n == 1
}

// Left is how many bytes have not been taken.
func (r *Reader) Left() int { return len(r.rest) }

// Done: was every part there, and is nothing left?
func (r *Reader) Done() bool { return !r.wrong && r.rest == "" }

func (r *Reader) take(n int) string {
	if len(r.rest) < n {
		r.stop()
		return ""
	}
	s := r.rest[:n]
	r.rest = r.rest[n:]
	return s
}

func (r *Reader) stop() { r.rest, r.wrong = "", true }
