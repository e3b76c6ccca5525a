package crc_test

import (
	"math/bits"
	"strings"
	"testing"

	"redoubt/crc"
)

// slow takes the bytes bit by bit, as the words say.
func slow(s string) uint32 {
	r := ^uint32(0)
	for i := range len(s) {
		r ^= uint32(s[i])
		for range 8 {
			out := r & 1
			r >>= 1
			if out == 1 {
				r ^= 0xEDB88320
			}
		}
	}
	return ^r
}

func texts() []string {
	list := []string{"", "\x00", "a", "123456789", "\xff\xff\xff\xff", strings.Repeat("\x00", 100), strings.Repeat("redoubt", 300)}
	for b := range 256 {
		list = append(list, string([]byte{byte(b)}), string([]byte{'x', byte(b), 0}))
	}
	return list
}

func TestSum(t *testing.T) { // P2.1
	if crc.Sum("123456789") != 0xCBF43926 || crc.Sum("1234", "", "56789") != 0xCBF43926 || crc.Sum() != 0 || crc.Sum("") != 0 || crc.Sum("\x00") != 0xD202EF8D {
		t.Fatal("the examples")
	}
	for _, s := range texts() {
		if crc.Sum(s) != slow(s) {
			t.Fatalf("%x: %x", s, crc.Sum(s))
		}
	}
}

func TestMore(t *testing.T) { // P2.2
	for _, a := range texts() {
		if crc.More(crc.Sum(a)) != crc.Sum(a) || crc.More(0, a) != crc.Sum(a) {
			t.Fatalf("%x", a)
		}
		if crc.More(crc.Sum(a), "bc", "", "d") != slow(a+"bcd") {
			t.Fatalf("%x", a)
		}
	}
	if crc.More(0xFFFFFFFF, "") != 0xFFFFFFFF || crc.More(0xFFFFFFFF, "\x00") != ^uint32(0) {
		t.Fatal("a register of noughts stays")
	}
	if crc.More(12345) != 12345 {
		t.Fatal("of no parts the sum stays")
	}
}

func TestParts(t *testing.T) { // P2.3
	s := strings.Repeat("any bytes ", 12)
	for i := range len(s) {
		if crc.Sum(s[:i], s[i:]) != crc.Sum(s) || crc.More(crc.Sum(s[:i]), s[i:]) != crc.Sum(s) {
			t.Fatal(i)
		}
	}
	parts := strings.Split(s, "")
	if crc.Sum(parts...) != crc.Sum(s) {
		t.Fatal("byte by byte")
	}
	if parts[0] != "a" {
		t.Fatal("what was handed in stays")
	}
}

func TestBurst(t *testing.T) { // P2.3
	s := []byte(strings.Repeat("\x5a\x00\xff", 7))
	want := crc.Sum(string(s))
	for at := 0; at+32 <= 8*len(s); at += 3 {
		for _, mask := range []uint32{1, 0xFFFFFFFF, 0x80000001, 0xDEADBEEF, 0x00010001, 0xEDB88321} {
			b := append([]byte(nil), s...)
			for i := range 32 {
				if mask>>i&1 == 1 {
					b[(at+i)/8] ^= 1 << ((at + i) % 8)
				}
			}
			if crc.Sum(string(b)) == want {
				t.Fatal(at, bits.OnesCount32(mask))
			}
		}
	}
}
