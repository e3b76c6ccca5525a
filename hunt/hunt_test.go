package hunt_test

import (
	"fmt"
	"math"
	"slices"
	"strings"
	"testing"

	"redoubt/api"
	"redoubt/bucket"
	"redoubt/disk"
	"redoubt/hunt"
	"redoubt/sha"
	"redoubt/vault"
)

func start(t *testing.T, me int) *hunt.Hunt {
	t.Helper()
	h, e := hunt.New(me)
	if e != api.OK || h.Turn() != 0 {
		t.Fatal(e)
	}
	return h
}

func names(n int) []string {
	var list []string
	for i := range n {
		list = append(list, fmt.Sprint("h", i))
	}
	return list
}

func TestNew(t *testing.T) { // P19.1
	for _, me := range []int{-1, 6, math.MinInt, math.MaxInt} {
		if h, e := hunt.New(me); h != nil || e != api.ErrArg {
			t.Fatal(me, e)
		}
	}
	for me := range 6 {
		start(t, me)
	}
}

func TestTick(t *testing.T) { // P19.2
	h := start(t, 5)
	for i, want := range []int{0, 1, 2, 3, 4, 0, 1} {
		if to, list := h.Tick("a"); to != want || !slices.Equal(list, []string{"a"}) || h.Turn() != i+1 {
			t.Fatal(i, to, list)
		}
	}
	h = start(t, 2)
	for i := range 12 {
		to, list := h.Tick(names(5)...)
		want := names(5)[:4]
		if i/5 == 1 {
			want = names(5)[4:]
		}
		if to != (3+i%5)%6 || !slices.Equal(list, want) {
			t.Fatal(i, to, list)
		}
	}
	h = start(t, 0)
	for i := range 7 {
		if to, list := h.Tick(); to != -1 || len(list) != 0 || h.Turn() != i+1 {
			t.Fatal("without missing ones the turn goes on", to, h.Turn())
		}
	}
	if to, list := h.Tick(names(9)...); to != 3 || !slices.Equal(list, names(9)[4:8]) {
		t.Fatal(to, list)
	}
	for range 2 {
		h.Tick()
	}
	if to, list := h.Tick(names(9)...); to != 1 || !slices.Equal(list, names(9)[8:]) {
		t.Fatal(to, list)
	}
	in := names(4)
	_, list := h.Tick(in...)
	list[0] = "turned"
	if in[0] != "h0" {
		t.Fatal("what is answered is new memory")
	}
}

func TestServe(t *testing.T) { // P19.3
	d := disk.New()
	v, _ := vault.Open(d, 1000)
	for _, c := range []string{"one", "two", strings.Repeat("x", 62), "bad"} {
		v.Put(c)
	}
	d.Flip("b."+sha.Name(sha.Sum("bad")), 0)
	h := func(list ...string) []string {
		for i, c := range list {
			list[i] = sha.Sum(c)
		}
		return list
	}
	big := strings.Repeat("x", 62)
	if got := hunt.Serve(v, nil, h("two", "none", "bad", "one", big, "two")...); !slices.Equal(got, []string{"two", "one", big, "two"}) {
		t.Fatal(got)
	}
	if _, e := v.Get(sha.Sum("bad")); e != api.ErrMissing {
		t.Fatal("what is corrupt is taken away by Get", e)
	}
	b, _ := bucket.New(1, 64)
	if got := hunt.Serve(v, b, h("none", "two", big, "one")...); !slices.Equal(got, []string{"two"}) || b.Left() != 61 {
		t.Fatal("the first one that doesn't go ends all", got, b.Left())
	}
	for range 3 {
		b.Tick()
	}
	if got := hunt.Serve(v, b, h(big, "one", "two")...); !slices.Equal(got, []string{big}) || b.Left() != 2 {
		t.Fatal(got, b.Left())
	}
	b, _ = bucket.New(1, 128)
	if got := hunt.Serve(v, b, h(big, "one", big, "two")...); !slices.Equal(got, []string{big, "one", big}) || b.Left() != 1 {
		t.Fatal(got, b.Left())
	}
	if len(hunt.Serve(v, nil)) != 0 || len(hunt.Serve(nil, nil, h("one")...)) != 0 || len(hunt.Serve(nil, b, h("one")...)) != 0 {
		t.Fatal("nothing")
	}
}

func TestCopyAndNil(t *testing.T) { // P19.4
	h := start(t, 1)
	h.Tick("a")
	c := h.Copy()
	h.Tick("a")
	if to, _ := c.Tick("a"); to != 3 || c.Turn() != 2 || h.Turn() != 2 {
		t.Fatal(to)
	}
	c.Tick()
	if h.Turn() != 2 {
		t.Fatal("they know nothing of each other")
	}
	var n *hunt.Hunt
	if to, list := n.Tick("a"); to != -1 || list != nil || n.Turn() != 0 || n.Copy() != nil {
		t.Fatal("a nil one")
	}
}

func TestAllAreAsked(t *testing.T) { // P19.5
	for n := 1; n <= 17; n++ {
		for skip := range 40 {
			h := start(t, n%6)
			for range skip {
				h.Tick()
			}
			asked := map[string]map[int]int{}
			rows := (n + 3) / 4
			for range 5 * rows {
				to, list := h.Tick(names(n)...)
				for _, c := range list {
					if asked[c] == nil {
						asked[c] = map[int]int{}
					}
					asked[c][to]++
				}
				if to == n%6 || len(list) > 4 {
					t.Fatal("it asks itself, or for too many")
				}
			}
			for _, c := range names(n) {
				if len(asked[c]) != 5 {
					t.Fatal(n, skip, c, asked[c])
				}
			}
		}
	}
}
