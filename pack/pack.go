// Package pack is layer 1: numbers and texts as bytes, and back. See shared/doc/01-pack.md.
package pack

// most is how many groups of seven bits a number of 64 bits takes at the most.
const most = 10

// Nums: the bytes of numbers.
func Nums(vals ...int) string {
	out := make([]byte, 0, 2*len(vals))
	for _, n := range vals {
		out = putNum(out, n)
	}
	return string(out)
}

// Text: the bytes of texts.
func Text(parts ...string) string {
	size := 0
	for _, p := range parts {
		size += len(p) + most
	}
	out := make([]byte, 0, size)
	for _, p := range parts {
		out = append(putNum(out, len(p)), p...)
	}
	return string(out)
}

func putNum(out []byte, n int) []byte {
	z := uint64(n)<<1 ^ uint64(n>>63)
	for z >= 128 {
		out = append(out, byte(z)|128)
		z >>= 7
	}
	return append(out, byte(z))
}

// getNum is the number with which s begins, and how many bytes it takes: 0, if there is none.
func getNum(s string) (n, used int) {
	z := uint64(0)
	for i := 0; i < len(s) && i < most; i++ {
		b := s[i]
		if i == most-1 && b > 1 {
			return 0, 0
		}
		z |= uint64(b&127) << (7 * i)
		if b >= 128 {
			continue
		}
		if b == 0 && i > 0 {
			return 0, 0
		}
		return int(z>>1) ^ -int(z&1), i + 1
	}
	return 0, 0
}

// Reader: bytes that are read.
type Reader struct {
	rest string
	bad  bool
}

// Read: they are read from the front.
func Read(s string) *Reader { return &Reader{rest: s} }

// whenGood does something with a reader that is there and good; with others nothing is to be done.
func (r *Reader) whenGood(do func()) {
	if r != nil && !r.bad {
		do()
	}
}

// Num: the next number.
func (r *Reader) Num() int {
	n := 0
	r.whenGood(func() { n = r.next() })
	return n
}

// Text: the next text.
func (r *Reader) Text() string {
	text := ""
	r.whenGood(func() {
		n := r.size()
		text = r.rest[:n]
		r.rest = r.rest[n:]
	})
	return text
}

// Count: how many things follow.
func (r *Reader) Count() int {
	n := 0
	r.whenGood(func() { n = r.size() })
	return n
}

// next reads a number of a good reader.
func (r *Reader) next() int {
	n, used := getNum(r.rest)
	r.rest = r.rest[used:]
	r.bad = used == 0
	return n
}

// size reads a number that is at most how many bytes are left behind it. Of a reader that is good no more it is 0.
func (r *Reader) size() int {
	n := r.next()
	if n < 0 || n > len(r.rest) {
		r.bad = true
		return 0
	}
	return n
}

// Left: how many bytes aren't read.
func (r *Reader) Left() int {
	n := 0
	r.whenGood(func() { n = len(r.rest) })
	return n
}

// Spoil: what was read may not be.
func (r *Reader) Spoil() {
	r.whenGood(func() { r.bad = true })
}

// Good: was all right so far?
func (r *Reader) Good() bool {
	good := false
	r.whenGood(func() { good = true })
	return good
}

// Done: and is all read?
func (r *Reader) Done() bool {
	done := false
	r.whenGood(func() { done = r.rest == "" })
	return done
}
