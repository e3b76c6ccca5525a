package sheet_test

import (
	"math"
	"slices"
	"strings"
	"testing"

	"redoubt/api"
	"redoubt/carve"
	"redoubt/pack"
	"redoubt/sha"
	"redoubt/sheet"
)

func bytesOf(n int) string {
	b := make([]byte, n)
	for i := range b {
		b[i] = byte(i*7 + i/64)
	}
	return string(b)
}

func same(a, b api.Sheet) bool { return a.Size == b.Size && slices.Equal(a.Hashes, b.Hashes) }

func hashes(n int) []string {
	var list []string
	for i := range n {
		list = append(list, sha.Sum(string([]byte{byte(i)})))
	}
	return list
}

var wrong = []api.Sheet{
	{Size: -1}, {Size: 513, Hashes: hashes(9)}, {Size: 1}, {Size: 0, Hashes: hashes(1)}, {Size: 64, Hashes: hashes(2)}, {Size: 65, Hashes: hashes(1)},
	{Size: 1, Hashes: []string{"short"}}, {Size: 1, Hashes: []string{strings.Repeat("x", 33)}}, {Size: 65, Hashes: []string{strings.Repeat("x", 32), ""}}, {Size: math.MinInt}, {Size: math.MaxInt},
}

func TestMakeAndCheck(t *testing.T) { // P8.1
	for n := range 513 {
		data := bytesOf(n)
		s, e := sheet.Make(data)
		if e != api.OK || s.Size != n || len(s.Hashes) != carve.Count(n) || sheet.Check(s) != api.OK {
			t.Fatal(n, e)
		}
		for i, c := range carve.Cut(data) {
			if s.Hashes[i] != sha.Sum(c) {
				t.Fatal(n, i)
			}
		}
	}
	if s, e := sheet.Make(bytesOf(513)); e != api.ErrLong || !same(s, api.Sheet{}) {
		t.Fatal(e)
	}
	for _, s := range wrong {
		if sheet.Check(s) != api.ErrForm {
			t.Fatal(s)
		}
	}
	if sheet.Check(api.Sheet{Size: 512, Hashes: hashes(8)}) != api.OK || sheet.Check(api.Sheet{Hashes: []string{}}) != api.OK {
		t.Fatal("right ones")
	}
}

func TestBuild(t *testing.T) { // P8.2
	data := bytesOf(150)
	s, _ := sheet.Make(data)
	cut := carve.Cut(data)
	if got, e := sheet.Build(s, cut...); got != data || e != api.OK {
		t.Fatal(e)
	}
	bad := func(s api.Sheet, want api.Errno, chunks ...string) {
		t.Helper()
		if got, e := sheet.Build(s, chunks...); got != "" || e != want {
			t.Fatal(got, e)
		}
	}
	bad(s, api.ErrArg)
	bad(s, api.ErrArg, cut[:2]...)
	bad(s, api.ErrArg, append(slices.Clone(cut), "")...)
	bad(s, api.ErrCorrupt, cut[0], cut[1], "other")
	bad(s, api.ErrCorrupt, cut[1], cut[0], cut[2])
	for _, w := range wrong {
		bad(w, api.ErrForm, w.Hashes...)
		bad(w, api.ErrForm)
	}
	one := api.Sheet{Size: 2, Hashes: []string{sha.Sum("abc")}}
	bad(one, api.ErrCorrupt, "abc")
	one.Size = 3
	if got, e := sheet.Build(one, "abc"); got != "abc" || e != api.OK {
		t.Fatal(e)
	}
	bad(one, api.ErrCorrupt, "abd")
	two := api.Sheet{Size: 65, Hashes: []string{sha.Sum("a"), sha.Sum(bytesOf(64))}}
	if got, e := sheet.Build(two, "a", bytesOf(64)); got != "a"+bytesOf(64) || e != api.OK {
		t.Fatal("chunks need only be so many bytes together", e)
	}
	none, e := sheet.Make("")
	if got, e2 := sheet.Build(none); got != "" || e != api.OK || e2 != api.OK || none.Size != 0 || len(none.Hashes) != 0 {
		t.Fatal(e, e2)
	}
	bad(none, api.ErrArg, "x")
}

func TestPackAndParse(t *testing.T) { // P8.3
	empty, _ := sheet.Make("")
	if sheet.Pack(empty) != "\x00\x00" {
		t.Fatal("of no bytes")
	}
	for _, n := range []int{0, 1, 64, 65, 300, 512} {
		s, _ := sheet.Make(bytesOf(n))
		text := sheet.Pack(s)
		if text != pack.Nums(n, len(s.Hashes))+pack.Text(s.Hashes...) {
			t.Fatal(n)
		}
		got, e := sheet.Parse(text)
		if e != api.OK || !same(got, s) {
			t.Fatal(n, e)
		}
		for _, bad := range []string{text + "\x00", text[:len(text)-1], "\x80" + text, ""} {
			if got, e := sheet.Parse(bad); e != api.ErrForm || !same(got, api.Sheet{}) {
				t.Fatal(n, e)
			}
		}
	}
	for _, s := range wrong {
		if got, e := sheet.Parse(sheet.Pack(s)); e != api.ErrForm || !same(got, api.Sheet{}) {
			t.Fatal(s)
		}
		if sheet.Pack(s) != pack.Nums(s.Size, len(s.Hashes))+pack.Text(s.Hashes...) {
			t.Fatal("Pack, whatever it is")
		}
	}
	if _, e := sheet.Parse(pack.Nums(1, -1)); e != api.ErrForm {
		t.Fatal(e)
	}
	if _, e := sheet.Parse(pack.Nums(1, math.MaxInt) + "xx"); e != api.ErrForm {
		t.Fatal(e)
	}
}

func TestOwnMemory(t *testing.T) { // P8.4
	data := bytesOf(130)
	s, _ := sheet.Make(data)
	again, _ := sheet.Make(data)
	s.Hashes[0] = "turned"
	if again.Hashes[0] == "turned" {
		t.Fatal("answers share memory")
	}
	if got, e := sheet.Build(again, carve.Cut(data)...); got != data || e != api.OK {
		t.Fatal(e)
	}
	if _, e := sheet.Build(again, carve.Cut(bytesOf(129)+"x")...); e != api.ErrCorrupt {
		t.Fatal(e)
	}
}
