package pack_test

import (
	"math"
	"strings"
	"testing"

	"redoubt/pack"
)

var ends = []int{0, -1, 1, 63, 64, -64, -65, 127, 128, 8191, 8192, -8192, -8193, 1 << 40, -(1 << 40), math.MaxInt, math.MinInt, math.MaxInt - 1, math.MinInt + 1, 1 << 62, -(1 << 62)}

// slow writes a number as the words say, digit by digit.
func slow(n int) string {
	z := 2 * uint64(n)
	if n < 0 {
		z = -(2 * uint64(n)) - 1
	}
	out := ""
	for {
		g := byte(z % 128)
		z /= 128
		if z == 0 {
			return out + string([]byte{g})
		}
		out += string([]byte{g + 128})
	}
}

func TestNumsAndText(t *testing.T) { // P1.1
	if s := pack.Nums(); s != "" {
		t.Fatalf("%x", s)
	}
	if s := pack.Text(); s != "" {
		t.Fatalf("%x", s)
	}
	if s := pack.Nums(0, -1, 1, 64); s != "\x00\x01\x02\x80\x01" {
		t.Fatalf("%x", s)
	}
	if s := pack.Text("ab", ""); s != "\x04ab\x00" {
		t.Fatalf("%x", s)
	}
	long := strings.Repeat("x", 64)
	if s := pack.Text(long, "\x00\xff"); s != "\x80\x01"+long+"\x04\x00\xff" {
		t.Fatalf("%x", s)
	}
	all := ""
	for _, n := range ends {
		if s := pack.Nums(n); s != slow(n) {
			t.Fatalf("%d: %x", n, s)
		}
		all += slow(n)
	}
	if s := pack.Nums(ends...); s != all {
		t.Fatalf("%x", s)
	}
	if s := pack.Nums(math.MinInt); s != strings.Repeat("\xff", 9)+"\x01" {
		t.Fatalf("%x", s)
	}
}

func TestReadInOrder(t *testing.T) { // P1.2, P1.3
	r := pack.Read(pack.Nums(-7) + pack.Text("abc") + pack.Nums(2) + "zz")
	if !r.Good() || r.Done() || r.Left() != 8 {
		t.Fatal(r.Good(), r.Done(), r.Left())
	}
	if n := r.Num(); n != -7 || r.Left() != 7 {
		t.Fatal(n, r.Left())
	}
	if s := r.Text(); s != "abc" || r.Left() != 3 {
		t.Fatal(s)
	}
	if n := r.Count(); n != 2 || r.Left() != 2 || !r.Good() || r.Done() {
		t.Fatal(n)
	}
	if n := r.Num(); n != 61 || r.Left() != 1 {
		t.Fatal(n)
	}
	if n := r.Num(); n != 61 || r.Left() != 0 || !r.Done() || !r.Good() {
		t.Fatal(n)
	}
	if n := r.Num(); n != 0 || r.Good() || r.Done() {
		t.Fatal(n)
	}
}

func TestNoNumbers(t *testing.T) { // P1.2
	bad := []string{"", "\x80", "\x80\x00", "\xff\x80\x00", "\xff\xff", strings.Repeat("\xff", 9) + "\x02", strings.Repeat("\x80", 9) + "\x00", strings.Repeat("\xff", 10) + "\x01", strings.Repeat("\x80", 12), strings.Repeat("\xff", 9) + "\x81", strings.Repeat("\xff", 9) + "\x81\x00"}
	for _, s := range bad {
		r := pack.Read(s)
		if n := r.Num(); n != 0 || r.Good() || r.Done() {
			t.Fatalf("%x: %d", s, n)
		}
		r = pack.Read(s)
		if n := r.Count(); n != 0 || r.Good() {
			t.Fatalf("%x: count %d", s, n)
		}
		r = pack.Read(s)
		if x := r.Text(); x != "" || r.Good() {
			t.Fatalf("%x: text %q", s, x)
		}
	}
	for s, want := range map[string]int{strings.Repeat("\x80", 9) + "\x01": 1 << 62, strings.Repeat("\xff", 9) + "\x01": math.MinInt, "\xfe" + strings.Repeat("\xff", 8) + "\x01": math.MaxInt} {
		r := pack.Read(s)
		if n := r.Num(); n != want || !r.Done() {
			t.Fatalf("%x: %d", s, n)
		}
	}
}

func TestCountAndTextBounds(t *testing.T) { // P1.2
	for _, c := range []struct {
		s    string
		want int
		good bool
	}{{"\x04ab", 2, true}, {"\x04abc", 2, true}, {"\x04a", 0, false}, {"\x00", 0, true}, {"\x02", 0, false}, {"\x01ab", 0, false}, {pack.Nums(math.MaxInt) + "ab", 0, false}, {pack.Nums(math.MinInt) + "ab", 0, false}} {
		r := pack.Read(c.s)
		if n := r.Count(); n != c.want || r.Good() != c.good {
			t.Fatalf("%x: %d %v", c.s, n, r.Good())
		}
		r = pack.Read(c.s)
		x := r.Text()
		if r.Good() != c.good || len(x) != c.want || x != c.s[1:1+c.want] && c.good {
			t.Fatalf("%x: %q %v", c.s, x, r.Good())
		}
		if c.good && r.Left() != len(c.s)-1-c.want {
			t.Fatalf("%x: left %d", c.s, r.Left())
		}
	}
	if r := pack.Read("\x06ab"); r.Text() != "" || r.Good() {
		t.Fatal("a text that is cut off")
	}
}

func TestBadForEver(t *testing.T) { // P1.2, P1.3
	for _, spoil := range []func(r *pack.Reader){func(r *pack.Reader) { r.Spoil() }, func(r *pack.Reader) { r.Num() }, func(r *pack.Reader) { r.Text() }, func(r *pack.Reader) { r.Count() }} {
		r := pack.Read("\x80\x00\x02\x02\x02\x02")
		spoil(r)
		for range 8 {
			if r.Good() || r.Done() || r.Num() != 0 || r.Text() != "" || r.Count() != 0 {
				t.Fatal("good again")
			}
		}
	}
	r := pack.Read("")
	if !r.Good() || !r.Done() {
		t.Fatal("nothing to read is good and done")
	}
	r.Spoil()
	if r.Good() || r.Done() {
		t.Fatal("spoilt")
	}
	r = pack.Read("\x02")
	r.Spoil()
	r.Spoil()
	if r.Num() != 0 || r.Good() {
		t.Fatal("spoilt twice")
	}
}

func TestNilReader(t *testing.T) { // P1.4
	var r *pack.Reader
	r.Spoil()
	if r.Num() != 0 || r.Text() != "" || r.Count() != 0 || r.Left() != 0 || r.Good() || r.Done() {
		t.Fatal("a nil reader")
	}
}

func TestThereAndBack(t *testing.T) { // P1.5
	for _, n := range ends {
		for _, behind := range []string{"", "\x00", "\x80", "\xff\xff", "abc"} {
			r := pack.Read(pack.Nums(n) + behind)
			if m := r.Num(); m != n || !r.Good() || r.Left() != len(behind) {
				t.Fatal(n, m)
			}
			r = pack.Read(pack.Text(behind, "x") + behind)
			if a, b := r.Text(), r.Text(); a != behind || b != "x" || r.Left() != len(behind) {
				t.Fatal(a, b)
			}
		}
	}
	for a := range 256 {
		for b := range 256 {
			s := string([]byte{byte(a), byte(b)})
			r := pack.Read(s)
			n := r.Num()
			if r.Good() && pack.Nums(n) != s[:len(s)-r.Left()] {
				t.Fatalf("%x isn't what is read from it", s)
			}
		}
	}
	if len(pack.Text(strings.Repeat("y", 1<<20))) != 1<<20+4 {
		t.Fatal("a long text")
	}
}
