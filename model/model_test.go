package model_test

import (
	"math"
	"math/rand"
	"reflect"
	"slices"
	"testing"

	"redoubt/api"
	"redoubt/deed"
	"redoubt/model"
	"redoubt/sheet"
)

func at(n, epoch int) api.Spot { return api.Spot{N: n, Epoch: epoch} }

func reign(n, epoch, site int) api.Op {
	return api.Op{N: n, Epoch: epoch, Kind: api.OpReign, Site: site}
}

func put(n, epoch, seq int, name, data string) api.Op {
	s, _ := sheet.Make(data)
	return api.Op{N: n, Epoch: epoch, Kind: api.OpPut, Client: 1, Seq: seq, Name: name, Sheet: s}
}

func drop(n, epoch, seq int, name string) api.Op {
	return api.Op{N: n, Epoch: epoch, Kind: api.OpDrop, Client: 1, Seq: seq, Name: name}
}

func ask(seq int, name, data string) api.Ask {
	return api.Ask{Kind: api.AskPut, Client: 1, Seq: seq, Name: name, Data: data}
}

func see(t *testing.T, m *model.Model, want api.Errno, ops ...api.Op) {
	t.Helper()
	if e := m.See(ops...); e != want {
		t.Fatal(e)
	}
}

func sameOps(a, b []api.Op) bool {
	if len(a) != len(b) {
		return false
	}
	for i := range a {
		if !slices.Equal(a[i].Sheet.Hashes, b[i].Sheet.Hashes) {
			return false
		}
		x, y := a[i], b[i]
		x.Sheet.Hashes, y.Sheet.Hashes = nil, nil
		if !reflect.DeepEqual(x, y) {
			return false
		}
	}
	return true
}

func path(t *testing.T, m *model.Model, spot api.Spot, there bool, ops ...api.Op) {
	t.Helper()
	if got, ok := m.Path(spot); ok != there || !sameOps(got, ops) {
		t.Fatal(got, ok)
	}
}

func names(t *testing.T, m *model.Model, spot api.Spot, there bool, want ...string) {
	t.Helper()
	if got, ok := m.Names(spot); ok != there || !slices.Equal(got, want) {
		t.Fatal(got, ok)
	}
}

func find(t *testing.T, m *model.Model, spot api.Spot, name string, want api.Op) {
	t.Helper()
	got, ok := m.Find(spot, name)
	if ok != (want.N > 0) || !sameOps([]api.Op{got}, []api.Op{want}) {
		t.Fatal(got, ok)
	}
}

func TestSee(t *testing.T) { // P26.1
	m := model.New()
	path(t, m, at(0, 0), true)
	path(t, m, at(1, 1), false)
	see(t, m, api.OK)
	r, a := reign(1, 1, 0), put(2, 1, 1, "a", "x")
	for _, bad := range [][]api.Op{{a}, {r, r}, {r, put(3, 1, 1, "a", "x")}, {{}}, {r, a, reign(3, 1, 0)}} {
		see(t, m, api.ErrForm, bad...)
	}
	path(t, m, at(1, 1), false)
	see(t, m, api.OK, r, a)
	see(t, m, api.OK, r, a)
	see(t, m, api.OK, r, reign(2, 2, 1))
	path(t, m, at(2, 1), true, r, a)
	path(t, m, at(2, 2), true, r, reign(2, 2, 1))
	// another operation at a place
	other := a
	other.Name = "b"
	turns := []func(o *api.Op){func(o *api.Op) { o.Name = "b" }, func(o *api.Op) { o.Client = 2 }, func(o *api.Op) { o.Seq = 9 }, func(o *api.Op) { *o = drop(2, 1, 1, "a") }, func(o *api.Op) { o.Sheet.Size = 2 }, func(o *api.Op) { o.Sheet = put(2, 1, 1, "a", "y").Sheet }}
	for i, turn := range turns {
		x := a
		turn(&x)
		if e := m.See(r, x); e != api.ErrDenied {
			t.Fatal(i, e)
		}
	}
	see(t, m, api.ErrDenied, reign(1, 1, 1))
	empty := model.New()
	see(t, empty, api.OK, r, put(2, 1, 1, "a", ""))
	see(t, empty, api.ErrDenied, r, drop(2, 1, 1, "a"))
	// another place ahead
	see(t, m, api.OK, r, a, reign(3, 3, 1))
	see(t, m, api.ErrDenied, r, reign(2, 2, 1), reign(3, 3, 1))
	// what is denied isn't let in at all
	see(t, m, api.ErrDenied, r, other, put(3, 1, 2, "c", ""))
	path(t, m, at(3, 1), false)
	low := reign(1, 2, 0)
	see(t, m, api.ErrDenied, low, drop(2, 2, 1, "q"), reign(3, 3, 1))
	path(t, m, at(1, 2), false)
}

func TestPathNamesFind(t *testing.T) { // P26.2
	m := model.New()
	r, a, b, d, again := reign(1, 2, 0), put(2, 2, 1, "b", "x"), put(3, 2, 2, "a", "y"), drop(4, 2, 3, "b"), put(5, 2, 4, "b", "z")
	see(t, m, api.OK, r, a, b, d, again)
	r3, c := reign(3, 3, 1), put(4, 3, 7, "c", "w")
	c.Site = 1
	see(t, m, api.OK, r, a, r3, c)
	path(t, m, at(0, 0), true)
	path(t, m, at(3, 2), true, r, a, b)
	path(t, m, at(5, 2), true, r, a, b, d, again)
	path(t, m, at(4, 3), true, r, a, r3, c)
	names(t, m, at(0, 0), true)
	names(t, m, at(1, 2), true)
	names(t, m, at(3, 2), true, "a", "b")
	names(t, m, at(4, 2), true, "a")
	names(t, m, at(5, 2), true, "a", "b")
	names(t, m, at(4, 3), true, "b", "c")
	none := api.Op{}
	find(t, m, at(5, 2), "b", again)
	find(t, m, at(4, 2), "b", none)
	find(t, m, at(3, 2), "b", a)
	find(t, m, at(4, 3), "b", a)
	find(t, m, at(4, 3), "a", none)
	find(t, m, at(4, 3), "c", c)
	find(t, m, at(1, 2), "", none)
	find(t, m, at(0, 0), "a", none)
	for _, spot := range []api.Spot{at(1, 1), at(6, 2), at(0, 1), at(1, 0), at(-1, -1), at(math.MaxInt, 2)} {
		path(t, m, spot, false)
		names(t, m, spot, false)
		find(t, m, spot, "a", none)
	}
	// a name that is put twice means the last one; dropped, it isn't live
	see(t, m, api.OK, r, a, b, d, again, put(6, 2, 5, "b", "zz"), drop(7, 2, 6, "b"))
	names(t, m, at(6, 2), true, "a", "b")
	find(t, m, at(6, 2), "b", put(6, 2, 5, "b", "zz"))
	names(t, m, at(7, 2), true, "a")
}

func judge(t *testing.T, m *model.Model, a api.Ask, x api.Reply, want api.Errno) {
	t.Helper()
	if e := m.Judge(a, x); e != want {
		t.Fatalf("%+v %+v: %d", a, x, e)
	}
}

func TestJudge(t *testing.T) { // P26.3
	m := model.New()
	r, a, d := reign(1, 1, 0), put(2, 1, 5, "a", "data"), drop(3, 1, 6, "a")
	see(t, m, api.OK, r, a, d)
	m.Asked(ask(5, "a", "data"))
	m.Asked(ask(5, "a", "other"))
	m.Asked(ask(4, "a", "late"))
	m.Asked(api.Ask{Kind: api.AskDrop, Client: 1, Seq: 5, Name: "a", Data: "dropped"})
	// puts and drops
	for _, kind := range []int{api.AskPut, api.AskDrop} {
		q := api.Ask{Kind: kind, Client: 1, Seq: 5, Name: "whatever"}
		judge(t, m, q, api.Reply{At: at(2, 1)}, api.OK)
		for _, spot := range []api.Spot{at(0, 0), at(4, 1), at(2, 2), at(0, 1)} {
			judge(t, m, q, api.Reply{At: spot}, api.ErrNone)
		}
		judge(t, m, q, api.Reply{At: at(3, 1)}, api.ErrDenied)
		judge(t, m, q, api.Reply{At: at(1, 1)}, api.ErrDenied)
		judge(t, m, api.Ask{Kind: kind}, api.Reply{At: at(1, 1)}, api.ErrDenied)
		q.Client = 2
		judge(t, m, q, api.Reply{At: at(2, 1)}, api.ErrDenied)
	}
	// lists
	list := api.Ask{Kind: api.AskList}
	judge(t, m, list, api.Reply{At: at(2, 1), Names: []string{"a"}}, api.OK)
	judge(t, m, list, api.Reply{At: at(3, 1)}, api.OK)
	judge(t, m, list, api.Reply{}, api.OK)
	judge(t, m, list, api.Reply{At: at(2, 1)}, api.ErrDenied)
	judge(t, m, list, api.Reply{At: at(3, 1), Names: []string{"a"}}, api.ErrDenied)
	judge(t, m, list, api.Reply{At: at(2, 1), Names: []string{"a", "a"}}, api.ErrDenied)
	judge(t, m, list, api.Reply{At: at(2, 3), Names: []string{"a"}}, api.ErrNone)
	// restores
	get := api.Ask{Kind: api.AskRestore, Name: "a"}
	judge(t, m, get, api.Reply{At: at(2, 1), Data: "data"}, api.OK)
	for _, data := range []string{"other", "late", "dropped", "", "datA"} {
		judge(t, m, get, api.Reply{At: at(2, 1), Data: data}, api.ErrDenied)
	}
	judge(t, m, get, api.Reply{At: at(3, 1), Data: "data"}, api.ErrDenied)
	judge(t, m, get, api.Reply{Data: "data"}, api.ErrDenied)
	judge(t, m, get, api.Reply{At: at(2, 2), Data: "data"}, api.ErrNone)
	judge(t, m, get, api.Reply{Err: api.ErrNotFound, At: at(3, 1)}, api.OK)
	judge(t, m, get, api.Reply{Err: api.ErrNotFound}, api.OK)
	judge(t, m, get, api.Reply{Err: api.ErrNotFound, At: at(2, 1)}, api.ErrDenied)
	judge(t, m, get, api.Reply{Err: api.ErrNotFound, At: at(9, 1)}, api.ErrNone)
	// others
	for _, kind := range []int{api.AskReign, api.AskLost} {
		judge(t, m, api.Ask{Kind: kind}, api.Reply{At: at(9, 9)}, api.OK)
	}
	for _, kind := range []int{0, 7, -1} {
		judge(t, m, api.Ask{Kind: kind}, api.Reply{}, api.ErrDenied)
	}
	for kind := range 8 {
		q := api.Ask{Kind: kind, Name: "a"}
		for _, e := range []api.Errno{api.ErrArg, api.ErrUnsure, api.ErrDown, api.ErrCorrupt, api.ErrNotFound, 999} {
			if kind == api.AskRestore && e == api.ErrNotFound {
				continue
			}
			judge(t, m, q, api.Reply{Err: e, At: at(9, 9)}, api.OK)
			judge(t, m, q, api.Reply{Err: e, Names: []string{"a"}}, api.ErrDenied)
			judge(t, m, q, api.Reply{Err: e, Data: "x"}, api.ErrDenied)
		}
	}
	// an empty backup; one whose bytes nobody asked for
	see(t, m, api.OK, r, a, d, put(4, 1, 7, "e", ""), put(5, 1, 8, "f", "nobody's"))
	m.Asked(ask(7, "e", ""))
	judge(t, m, api.Ask{Kind: api.AskRestore, Name: "e"}, api.Reply{At: at(4, 1)}, api.OK)
	judge(t, m, api.Ask{Kind: api.AskRestore, Name: "f"}, api.Reply{At: at(5, 1), Data: "nobody's"}, api.ErrDenied)
}

func TestCopyAndNil(t *testing.T) { // P26.4
	m := model.New()
	r, a := reign(1, 1, 0), put(2, 1, 5, "a", "data")
	ops := []api.Op{r, a}
	ops[1].Sheet.Hashes = slices.Clone(a.Sheet.Hashes)
	see(t, m, api.OK, ops...)
	ops[1].Sheet.Hashes[0] = "turned"
	path(t, m, at(2, 1), true, r, a)
	got, _ := m.Path(at(2, 1))
	got[1].Sheet.Hashes[0] = "turned"
	found, _ := m.Find(at(2, 1), "a")
	found.Sheet.Hashes[0] = "turned"
	path(t, m, at(2, 1), true, r, a)
	c := m.Copy()
	m.Asked(ask(5, "a", "data"))
	see(t, c, api.OK, r, a, drop(3, 1, 6, "a"))
	see(t, m, api.OK, r, a, drop(3, 1, 7, "a"))
	path(t, c, at(3, 1), true, r, a, drop(3, 1, 6, "a"))
	get := api.Ask{Kind: api.AskRestore, Name: "a"}
	judge(t, c, get, api.Reply{At: at(2, 1), Data: "data"}, api.ErrDenied)
	judge(t, m, get, api.Reply{At: at(2, 1), Data: "data"}, api.OK)
	judge(t, m.Copy(), get, api.Reply{At: at(2, 1), Data: "data"}, api.OK)
	var n *model.Model
	n.Asked(ask(1, "a", ""))
	see(t, n, api.ErrNil, api.Op{})
	path(t, n, at(0, 0), false)
	names(t, n, at(0, 0), false)
	find(t, n, at(0, 0), "a", api.Op{})
	judge(t, n, api.Ask{Kind: api.AskList}, api.Reply{}, api.ErrNil)
	if n.Copy() != nil {
		t.Fatal("a nil one")
	}
}

func TestWhateverOrder(t *testing.T) { // P26.5
	for seed := range 200 {
		rnd := rand.New(rand.NewSource(int64(seed)))
		var rows [][]api.Op
		epoch := 0
		for range 1 + rnd.Intn(5) {
			var row []api.Op
			if len(rows) > 0 {
				from := rows[rnd.Intn(len(rows))]
				row = slices.Clone(from[:1+rnd.Intn(len(from))])
			}
			epoch += 1 + rnd.Intn(2)
			row = append(row, reign(len(row)+1, epoch, 0))
			for range rnd.Intn(5) {
				name := string([]byte{byte('a' + rnd.Intn(3))})
				if n := len(row) + 1; rnd.Intn(3) > 0 {
					row = append(row, put(n, epoch, n, name, "x"))
				} else {
					row = append(row, drop(n, epoch, n, name))
				}
			}
			rows = append(rows, row)
		}
		one, two := model.New(), model.New()
		for _, row := range rows {
			see(t, one, api.OK, row...)
		}
		for _, i := range rnd.Perm(len(rows)) {
			see(t, two, api.OK, rows[i]...)
		}
		for _, row := range rows {
			for n := range len(row) + 1 {
				spot := api.Spot{}
				if n > 0 {
					spot = at(n, row[n-1].Epoch)
				}
				path(t, one, spot, true, row[:n]...)
				path(t, two, spot, true, row[:n]...)
				got, _ := one.Path(spot)
				if !deed.Row(api.Spot{}, got...) {
					t.Fatal("a path is a row")
				}
				list, _ := one.Names(spot)
				names(t, two, spot, true, list...)
				for _, name := range []string{"a", "b", "c"} {
					if _, live := two.Find(spot, name); live != slices.Contains(list, name) {
						t.Fatal(name)
					}
				}
			}
		}
	}
}
