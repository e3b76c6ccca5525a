package frame_test

import (
	"slices"
	"strings"
	"testing"

	"redoubt/api"
	"redoubt/crc"
	"redoubt/frame"
	"redoubt/pack"
)

// one is the frame of a payload, as the words say, whatever its length.
func one(p string) string {
	c := crc.Sum(p)
	return pack.Nums(len(p)) + string([]byte{byte(c), byte(c >> 8), byte(c >> 16), byte(c >> 24)}) + p
}

func TestSeal(t *testing.T) { // P4.1
	for _, list := range [][]string{nil, {""}, {"ab"}, {"ab", "", "c"}, {strings.Repeat("x", 1<<20)}, {"a", strings.Repeat("y", 70000)}} {
		want := ""
		for _, p := range list {
			want += one(p)
		}
		if s, e := frame.Seal(list...); s != want || e != api.OK {
			t.Fatal(len(s), e)
		}
	}
	if s, e := frame.Seal("ab"); s != "\x04\x6d\x48\x83\x9eab" || e != api.OK {
		t.Fatalf("%x", s)
	}
	if s, e := frame.Seal(""); s != "\x00\x00\x00\x00\x00" || e != api.OK {
		t.Fatalf("%x", s)
	}
	long := strings.Repeat("x", 1<<20+1)
	for _, list := range [][]string{{long}, {"a", long}, {long, "a"}} {
		if s, e := frame.Seal(list...); s != "" || e != api.ErrLong {
			t.Fatal(len(s), e)
		}
	}
}

func TestOpen(t *testing.T) { // P4.2
	for _, p := range []string{"", "a", "ab", strings.Repeat("z", 64), strings.Repeat("q", 1<<20)} {
		for _, behind := range []string{"", "\x00", "\x04", one("next")} {
			got, rest, e := frame.Open(one(p) + behind)
			if got != p || rest != behind || e != api.OK {
				t.Fatal(len(p), e)
			}
		}
	}
	neg := pack.Nums(-1) + "\x00\x00\x00\x00"
	far := pack.Nums(1<<63-1) + "\x00\x00\x00\x00abc"
	notShort := "\x80\x00\x00\x00\x00\x00"
	for _, s := range []string{"", "\x04", "\x80", one("ab")[:6], one("")[:4], neg, far, notShort, one(strings.Repeat("x", 1<<20+1)), "\x04\x6d\x48\x83\x9eac", "\x04\x9e\x83\x48\x6dab"} {
		if p, rest, e := frame.Open(s); p != "" || rest != "" || e != api.ErrForm {
			t.Fatalf("%.20x: %v", s, e)
		}
	}
}

func TestScan(t *testing.T) { // P4.3
	list := []string{"ab", "", "cde", strings.Repeat("w", 200)}
	s, _ := frame.Seal(list...)
	for _, behind := range []string{"", "\x04", "\x04\x00\x00\x00\x00ab", "\x80"} {
		got, end := frame.Scan(s + behind)
		if !slices.Equal(got, list) || end != len(s) {
			t.Fatal(got, end)
		}
	}
	for _, none := range []string{"", "\x04", "garbage", "\x01" + s} {
		if got, end := frame.Scan(none); len(got) != 0 || end != 0 {
			t.Fatal(got, end)
		}
	}
}

func TestCutAndTurned(t *testing.T) { // P4.4
	list := []string{"first", "", "third one", "x"}
	s, ends := "", []int{0}
	for _, p := range list {
		s += one(p)
		ends = append(ends, len(s))
	}
	for cut := range len(s) + 1 {
		n := 0
		for n+1 < len(ends) && ends[n+1] <= cut {
			n++
		}
		if got, end := frame.Scan(s[:cut]); !slices.Equal(got, list[:n]) || end != ends[n] {
			t.Fatal(cut, got, end)
		}
	}
	f := one("some payload")
	for bit := 8; bit < 8*len(f); bit++ {
		b := []byte(f)
		b[bit/8] ^= 1 << (bit % 8)
		if _, _, e := frame.Open(string(b)); e != api.ErrForm {
			t.Fatal(bit, e)
		}
		if got, end := frame.Scan(one("ahead") + string(b)); len(got) != 1 || end != len(one("ahead")) {
			t.Fatal(bit, got)
		}
	}
}
