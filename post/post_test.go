package post_test

import (
	"math"
	"testing"

	"redoubt/api"
	"redoubt/post"
)

func letter(from, to int, data string) api.Letter { return api.Letter{From: from, To: to, Data: data} }

func all(p *post.Post) string {
	s := ""
	for k := range p.Len() {
		l, _ := p.At(k)
		s += l.Data
	}
	return s
}

func fill(t *testing.T, most int, list ...api.Letter) *post.Post {
	t.Helper()
	p, e := post.New(most)
	if e != api.OK {
		t.Fatal(e)
	}
	for _, l := range list {
		if e := p.Send(l); e != api.OK {
			t.Fatal(e)
		}
	}
	return p
}

func TestNewAndSend(t *testing.T) { // P6.1
	for _, bad := range []int{0, -1, 513, math.MaxInt, math.MinInt} {
		if p, e := post.New(bad); p != nil || e != api.ErrArg {
			t.Fatal(bad, e)
		}
	}
	p := fill(t, 2)
	for _, bad := range []api.Letter{letter(-1, 0, ""), letter(0, -1, ""), letter(7, 0, ""), letter(0, 7, ""), letter(math.MinInt, math.MaxInt, "")} {
		if e := p.Send(bad); e != api.ErrArg {
			t.Fatal(bad, e)
		}
	}
	if p.Len() != 0 {
		t.Fatal("what was refused lies there")
	}
	if p.Send(letter(0, 1, "a")) != api.OK || p.Send(letter(1, 6, "b")) != api.OK || p.Len() != 2 {
		t.Fatal("two")
	}
	if e := p.Send(letter(1, 2, "c")); e != api.ErrFull || p.Len() != 2 || all(p) != "ab" {
		t.Fatal(e)
	}
	if e := p.Send(letter(7, 2, "c")); e != api.ErrArg {
		t.Fatal(e)
	}
	p = fill(t, 512)
	for i := range 512 {
		if e := p.Send(letter(i%7, 6-i%7, "")); e != api.OK {
			t.Fatal(i, e)
		}
	}
	if e := p.Send(letter(6, 6, "")); e != api.ErrFull || p.Len() != 512 {
		t.Fatal(e)
	}
	if p = fill(t, 1, letter(3, 3, "itself")); p.Len() != 1 {
		t.Fatal("to itself, too")
	}
}

func TestRow(t *testing.T) { // P6.2
	p := fill(t, 9, letter(0, 1, "a"), letter(1, 2, "b"), letter(2, 6, "c"), letter(5, 5, "d"))
	for _, k := range []int{-1, 4, math.MaxInt, math.MinInt} {
		if l, ok := p.At(k); ok || l != (api.Letter{}) {
			t.Fatal(k, l)
		}
		if l, e := p.Take(k); e != api.ErrNone || l != (api.Letter{}) {
			t.Fatal(k, l)
		}
		if e := p.Twin(k); e != api.ErrNone {
			t.Fatal(k, e)
		}
	}
	if l, ok := p.At(2); !ok || l != letter(2, 6, "c") {
		t.Fatal(l)
	}
	if l, e := p.Take(1); e != api.OK || l != letter(1, 2, "b") || all(p) != "acd" {
		t.Fatal(l, all(p))
	}
	if e := p.Twin(0); e != api.OK || all(p) != "acda" {
		t.Fatal(all(p))
	}
	if l, _ := p.At(3); l != letter(0, 1, "a") {
		t.Fatal(l)
	}
	if l, e := p.Take(3); e != api.OK || l.Data != "a" || all(p) != "acd" {
		t.Fatal(l)
	}
	p = fill(t, 1, letter(0, 1, "x"))
	if e := p.Twin(0); e != api.ErrFull || p.Len() != 1 {
		t.Fatal(e)
	}
	if e := p.Twin(1); e != api.ErrNone {
		t.Fatal(e)
	}
	if _, e := p.Take(0); e != api.OK || p.Len() != 0 {
		t.Fatal(e)
	}
}

func TestPurge(t *testing.T) { // P6.2
	lay := func() *post.Post {
		return fill(t, 9, letter(0, 1, "a"), letter(1, 2, "b"), letter(3, 0, "c"), letter(4, 6, "d"), letter(2, 2, "e"))
	}
	for _, c := range []struct {
		nodes []int
		n     int
		left  string
	}{{nil, 0, "abcde"}, {[]int{0}, 2, "bde"}, {[]int{6}, 1, "abce"}, {[]int{2, 4, 2}, 3, "ac"}, {[]int{0, 1, 2}, 4, "d"}, {[]int{5, -3, 99}, 0, "abcde"}, {[]int{0, 1, 2, 3, 4, 5, 6}, 5, ""}} {
		p := lay()
		if n := p.Purge(c.nodes...); n != c.n || all(p) != c.left {
			t.Fatal(c.nodes, n, all(p))
		}
	}
	p := fill(t, 2, letter(0, 1, "a"), letter(1, 6, "b"))
	p.Take(0)
	p.Twin(0)
	if p.Len() != 2 || p.Purge(6) != 2 || p.Len() != 0 {
		t.Fatal("the example")
	}
}

func TestCopyAndNil(t *testing.T) { // P6.3
	p := fill(t, 3, letter(0, 1, "a"), letter(1, 2, "b"))
	c := p.Copy()
	if all(c) != "ab" {
		t.Fatal(all(c))
	}
	c.Send(letter(1, 1, "c"))
	if e := c.Send(letter(1, 1, "d")); e != api.ErrFull {
		t.Fatal("as much room")
	}
	p.Send(letter(1, 1, "q"))
	p.Take(0)
	if all(c) != "abc" || all(p) != "bq" {
		t.Fatal(all(c), all(p))
	}
	var n *post.Post
	if l, ok := n.At(0); ok || l != (api.Letter{}) {
		t.Fatal(l)
	}
	if l, e := n.Take(0); e != api.ErrNil || l != (api.Letter{}) {
		t.Fatal(e)
	}
	if n.Send(letter(9, 9, "")) != api.ErrNil || n.Twin(0) != api.ErrNil || n.Len() != 0 || n.Purge(1) != 0 || n.Copy() != nil {
		t.Fatal("a nil post")
	}
}
