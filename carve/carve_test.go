package carve_test

import (
	"math"
	"slices"
	"strings"
	"testing"

	"redoubt/carve"
)

func bytesOf(n int) string {
	b := make([]byte, n)
	for i := range b {
		b[i] = byte(i*31 + i/64)
	}
	return string(b)
}

func TestCount(t *testing.T) { // P7.1
	for n, want := range map[int]int{0: 0, 1: 1, 63: 1, 64: 1, 65: 2, 128: 2, 129: 3, 512: 8, -1: 0, -64: 0, math.MinInt: 0, math.MaxInt: math.MaxInt/64 + 1} {
		if carve.Count(n) != want {
			t.Fatal(n, carve.Count(n))
		}
	}
}

func TestCutAndJoin(t *testing.T) { // P7.1
	for n := range 400 {
		data := bytesOf(n)
		list := carve.Cut(data)
		if len(list) != carve.Count(n) {
			t.Fatal(n, len(list))
		}
		for i, c := range list {
			if c != data[64*i:min(64*i+64, n)] {
				t.Fatal(n, i)
			}
		}
		if carve.Join(list...) != data || !carve.Fits(list...) {
			t.Fatal(n)
		}
	}
	if carve.Join() != "" || carve.Join("", "") != "" || carve.Join("a", "", strings.Repeat("b", 100), "c") != "a"+strings.Repeat("b", 100)+"c" {
		t.Fatal("Join, whatever they are")
	}
}

func TestFits(t *testing.T) { // P7.1
	whole := strings.Repeat("w", 64)
	for _, c := range []struct {
		parts []string
		fits  bool
	}{
		{nil, true}, {[]string{""}, false}, {[]string{"a"}, true}, {[]string{whole}, true}, {[]string{whole + "x"}, false},
		{[]string{"a", "b"}, false}, {[]string{whole, "b"}, true}, {[]string{whole, whole}, true}, {[]string{whole, ""}, false},
		{[]string{whole, "b", ""}, false}, {[]string{whole[:63], whole}, false}, {[]string{whole, whole + "x"}, false}, {[]string{whole + "x", "b"}, false},
	} {
		before := slices.Clone(c.parts)
		if carve.Fits(c.parts...) != c.fits || !slices.Equal(before, c.parts) {
			t.Fatal(c)
		}
	}
}

func TestConsequences(t *testing.T) { // P7.2
	a, b := bytesOf(200), bytesOf(150)+"other"
	for i, c := range carve.Cut(b)[:2] {
		if carve.Cut(a)[i] != c {
			t.Fatal("the first chunks, as far as they are whole in both")
		}
	}
	parts := []string{bytesOf(64), bytesOf(64), "end"}
	if !slices.Equal(carve.Cut(carve.Join(parts...)), parts) {
		t.Fatal("Cut of Join")
	}
}
