package desk_test

import (
	"math"
	"reflect"
	"slices"
	"strings"
	"testing"

	"redoubt/api"
	"redoubt/desk"
	"redoubt/disk"
	"redoubt/ledger"
	"redoubt/sha"
	"redoubt/sheet"
	"redoubt/vault"
)

func sheetOf(data string) api.Sheet {
	s, _ := sheet.Make(data)
	return s
}

func at(n, epoch int) api.Spot { return api.Spot{N: n, Epoch: epoch} }

func reach(n, epoch int, holes ...int) api.Reach { return api.Reach{At: at(n, epoch), Holes: holes} }

// load is a ledger in epoch 1 of site 0, with puts of these names and bytes.
func load(t *testing.T, puts ...string) *ledger.Ledger {
	t.Helper()
	l, _ := ledger.New(1<<16, 64)
	l.Apply(api.Command{Kind: api.CmdReign, Epoch: 1})
	for i := 0; i < len(puts); i += 2 {
		do(t, l, api.OpPut, 1+i, puts[i], puts[i+1])
	}
	return l
}

func do(t *testing.T, l *ledger.Ledger, kind, seq int, name, data string) {
	t.Helper()
	c := api.Command{Kind: api.CmdDo, Epoch: 1, Op: api.Op{Kind: kind, Seq: seq, Name: name}}
	if kind == api.OpPut {
		c.Op.Sheet = sheetOf(data)
	}
	if d := l.Apply(c); d.Err != api.OK {
		t.Fatal(d)
	}
}

func add(t *testing.T, d *desk.Desk, n int, a api.Ask, index, term int) {
	t.Helper()
	if e := d.Add(n, a, index, term); e != api.OK {
		t.Fatal(e)
	}
}

func norm(list []api.Reply) []api.Reply {
	var out []api.Reply
	for _, x := range list {
		if len(x.Names) == 0 {
			x.Names = nil
		}
		if len(x.Lost) == 0 {
			x.Lost = nil
		}
		out = append(out, x)
	}
	return out
}

func says(t *testing.T, got []api.Reply, want ...api.Reply) {
	t.Helper()
	if !reflect.DeepEqual(norm(got), norm(want)) {
		t.Fatalf("says %+v, not %+v", got, want)
	}
}

func waits(t *testing.T, d *desk.Desk, n int) {
	t.Helper()
	if d.Len() != n {
		t.Fatal(d.Len(), "wait")
	}
}

var ok = api.Done{At: api.Spot{N: 2, Epoch: 1}}

func TestAdd(t *testing.T) { // P22.1
	d := desk.New()
	waits(t, d, 0)
	for i := range 8 {
		add(t, d, 100+i, api.Ask{Kind: api.AskList}, 5, 1)
		waits(t, d, i+1)
	}
	if e := d.Add(9, api.Ask{}, 1, 1); e != api.ErrQueue {
		t.Fatal(e)
	}
	waits(t, d, 8)
	l := load(t)
	got := d.Agreed(5, 1, api.Done{}, l)
	if len(got) != 8 {
		t.Fatal(got)
	}
	for i, x := range got {
		if x.Ask != 100+i {
			t.Fatal("in the order in which they came")
		}
	}
	waits(t, d, 0)
	says(t, d.Agreed(5, 1, api.Done{}, l))
}

func TestAgreed(t *testing.T) { // P22.2
	l := load(t, "a", "x", "b", "y")
	do(t, l, api.OpDrop, 9, "b", "")
	d := desk.New()
	add(t, d, 1, api.Ask{Kind: api.AskPut}, 7, 3)
	says(t, d.Agreed(6, 3, ok, l))
	says(t, d.Agreed(8, 4, ok, l))
	waits(t, d, 1)
	says(t, d.Agreed(7, 4, ok, l), api.Reply{Ask: 1, Err: api.ErrUnsure})
	waits(t, d, 0)
	for _, kind := range []int{api.AskPut, api.AskDrop} {
		add(t, d, 2, api.Ask{Kind: kind}, 7, 3)
		says(t, d.Agreed(7, 3, api.Done{Err: api.ErrThere}, l), api.Reply{Ask: 2, Err: api.ErrThere})
		add(t, d, 3, api.Ask{Kind: kind}, 7, 3)
		says(t, d.Agreed(7, 3, ok, l))
		says(t, d.Agreed(7, 4, ok, l)) // it waits for its entry no more
		waits(t, d, 1)
		d.Drop()
	}
	last := l.Last()
	add(t, d, 4, api.Ask{Kind: api.AskList}, 7, 3)
	add(t, d, 5, api.Ask{Kind: api.AskLost}, 7, 3)
	add(t, d, 6, api.Ask{Kind: api.AskRestore, Name: "b"}, 7, 3)
	add(t, d, 7, api.Ask{Kind: api.AskRestore, Name: "a"}, 7, 3)
	add(t, d, 8, api.Ask{Kind: api.AskReign}, 7, 3)
	add(t, d, 9, api.Ask{Kind: 0}, 7, 2)
	add(t, d, 10, api.Ask{Kind: 99}, 7, 3)
	add(t, d, 11, api.Ask{Kind: api.AskList}, 8, 3)
	says(t, d.Agreed(7, 3, api.Done{Err: api.ErrStale}, l), api.Reply{Ask: 4, Names: []string{"a"}, At: last}, api.Reply{Ask: 5, At: last}, api.Reply{Ask: 6, Err: api.ErrNotFound, At: last}, api.Reply{Ask: 8, Err: api.ErrArg}, api.Reply{Ask: 9, Err: api.ErrUnsure}, api.Reply{Ask: 10, Err: api.ErrArg})
	waits(t, d, 2)
	if !slices.Equal(d.Needs(), sheetOf("x").Hashes) {
		t.Fatal(d.Needs())
	}
	l.Apply(api.Command{Kind: api.CmdShip, Epoch: 2, Site: 1, After: 1, Since: 1, Ops: []api.Op{{N: 2, Epoch: 2, Kind: api.OpReign, Site: 1}}})
	d = desk.New()
	add(t, d, 0, api.Ask{Kind: api.AskLost}, 1, 1)
	got := d.Agreed(1, 1, ok, l)
	says(t, got, api.Reply{Lost: l.Lost(), At: at(2, 2)})
	if len(got[0].Lost) != 3 {
		t.Fatal(got)
	}
}

func TestSettle(t *testing.T) { // P22.3
	l := load(t, "a", "x", "b", "y", "c", "z") // {1, 1} to {4, 1}
	none := api.Reach{}
	type far struct {
		site  api.Reach
		far   api.Spot
		whole api.Reach
		done  bool
	}
	try := func(a api.Ask, n int, list ...far) {
		t.Helper()
		for i, f := range list {
			d := desk.New()
			a.Kind = api.AskPut
			add(t, d, 6, a, 1, 1)
			d.Agreed(1, 1, api.Done{At: at(n, 1)}, l)
			got := d.Settle(l, f.site, f.far, f.whole)
			if f.done {
				says(t, got, api.Reply{Ask: 6, At: at(n, 1)})
				says(t, d.Settle(l, f.site, f.far, f.whole))
				waits(t, d, 0)
			} else if len(got) != 0 || d.Len() != 1 {
				t.Fatal(i, got)
			}
		}
	}
	async := []far{{none, none.At, none, false}, {reach(1, 1), at(4, 1), reach(4, 1), false}, {reach(2, 1), none.At, none, true}, {reach(4, 1), none.At, none, true}, {reach(2, 1, 2), none.At, none, false}, {reach(4, 1, 1, 3), none.At, none, true}, {reach(4, 1, 1, 2), none.At, none, false}, {reach(2, 2), none.At, none, false}, {reach(5, 1), none.At, none, false}, {reach(-1, 1), none.At, none, false}}
	try(api.Ask{Mode: api.ModeAsync}, 2, async...)
	try(api.Ask{Mode: 99, Lag: -5}, 2, async...)
	full := reach(4, 1)
	try(api.Ask{Mode: api.ModeLag, Lag: 0}, 3, far{full, none.At, none, false}, far{full, at(2, 1), none, false}, far{full, at(3, 1), none, true}, far{full, at(4, 1), none, true}, far{reach(2, 1), at(4, 1), full, false})
	try(api.Ask{Mode: api.ModeLag, Lag: 2}, 3, far{full, none.At, none, false}, far{full, at(1, 1), none, true}, far{full, at(1, 2), none, false}, far{full, at(9, 1), none, false}, far{reach(4, 1, 3), at(4, 1), none, false})
	try(api.Ask{Mode: api.ModeLag, Lag: 3}, 3, far{full, none.At, none, true}, far{none, none.At, none, false})
	try(api.Ask{Mode: api.ModeSync}, 3, far{full, none.At, none, false}, far{full, at(3, 1), none, false}, far{full, at(3, 1), reach(3, 1), true}, far{full, at(3, 1), reach(2, 1), false}, far{full, at(2, 1), reach(4, 1), false}, far{full, at(4, 1), reach(4, 1, 3), false}, far{full, at(4, 1), reach(4, 1, 2, 4), true}, far{full, at(3, 1), reach(3, 2), false}, far{full, at(3, 2), reach(3, 1), false}, far{reach(2, 1), at(3, 1), reach(3, 1), false}, far{reach(3, 1, 3), at(3, 1), reach(3, 1), false})
	// places that the ledger hasn't any more
	d := desk.New()
	for i, spot := range []api.Spot{at(5, 1), at(2, 2), at(2, 1), at(0, 0), at(-1, 1), at(math.MaxInt, 1)} {
		add(t, d, i, api.Ask{Kind: api.AskDrop}, 1, 1)
		d.Agreed(1, 1, api.Done{At: spot}, l)
	}
	add(t, d, 9, api.Ask{Kind: api.AskDrop}, 2, 1)
	bad := func(n int) api.Reply { return api.Reply{Ask: n, Err: api.ErrUnsure} }
	says(t, d.Settle(l, none, none.At, none), bad(0), bad(1), bad(3), bad(4), bad(5))
	waits(t, d, 2)
	says(t, d.Settle(nil, full, full.At, full), bad(2))
	waits(t, d, 1)
}

func TestFetch(t *testing.T) { // P22.4
	data := strings.Repeat("p", 64) + strings.Repeat("q", 64) + "r"
	l := load(t, "a", data, "empty", "")
	drive := disk.New()
	v, _ := vault.Open(drive, 1000)
	d := desk.New()
	ask := func(n int, name string) {
		t.Helper()
		add(t, d, n, api.Ask{Kind: api.AskRestore, Name: name}, 1, 1)
		says(t, d.Agreed(1, 1, api.Done{}, l))
	}
	last := l.Last()
	ask(0, "empty")
	ask(1, "a")
	ask(2, "a")
	says(t, d.Fetch(v, l), api.Reply{Ask: 0, At: last})
	v.Put(data[:64])
	v.Put(data[64:128])
	says(t, d.Fetch(v, l))
	do(t, l, api.OpPut, 99, "more", "")
	v.Put("r")
	says(t, d.Fetch(v, l), api.Reply{Ask: 1, Data: data, At: last}, api.Reply{Ask: 2, Data: data, At: last})
	waits(t, d, 0)
	// a bit has turned: those behind it aren't asked
	last = l.Last()
	ask(3, "a")
	flip := func(chunk string) { drive.Flip("b."+sha.Name(sha.Sum(chunk)), 0) }
	flip(data[64:128])
	flip("r")
	says(t, d.Fetch(v, l), api.Reply{Ask: 3, Err: api.ErrCorrupt, At: last})
	if _, e := v.Get(sha.Sum("r")); e != api.ErrCorrupt {
		t.Fatal("it was asked", e)
	}
	// missing ahead of corrupt: all are asked
	ask(4, "a")
	v.Put("r")
	flip("r")
	says(t, d.Fetch(v, l), api.Reply{Ask: 4, Err: api.ErrCorrupt, At: last})
	// its chunks are needed no more
	ask(5, "a")
	says(t, d.Fetch(v, l))
	do(t, l, api.OpDrop, 100, "a", "")
	says(t, d.Fetch(v, l), api.Reply{Ask: 5, Err: api.ErrMissing, At: last})
	do(t, l, api.OpPut, 101, "a", data)
	last = l.Last()
	ask(6, "a")
	do(t, l, api.OpDrop, 102, "a", "")
	do(t, l, api.OpPut, 103, "a", data)
	says(t, d.Fetch(v, l)) // live, with the same sheet
	do(t, l, api.OpDrop, 104, "a", "")
	do(t, l, api.OpPut, 105, "a", data[:128]+"!") // as many bytes, others
	says(t, d.Fetch(v, l), api.Reply{Ask: 6, Err: api.ErrMissing, At: last})
	// dropped, but all are there still
	do(t, l, api.OpDrop, 106, "a", "")
	do(t, l, api.OpPut, 107, "a", "p")
	ask(7, "a")
	last = l.Last()
	do(t, l, api.OpDrop, 108, "a", "")
	v.Put("p")
	says(t, d.Fetch(v, l), api.Reply{Ask: 7, Data: "p", At: last})
	// chunks that aren't so many bytes
	op := api.Op{N: l.Last().N + 1, Epoch: 1, Kind: api.OpPut, Client: 7, Seq: 1, Name: "odd", Sheet: api.Sheet{Size: 2, Hashes: sheetOf("p").Hashes}}
	l.Apply(api.Command{Kind: api.CmdShip, Epoch: 1, After: l.Last().N, Since: 1, Ops: []api.Op{op}})
	ask(8, "odd")
	says(t, d.Fetch(v, l), api.Reply{Ask: 8, Err: api.ErrCorrupt, At: l.Last()})
	ask(9, "odd")
	says(t, d.Fetch(nil, l))
	says(t, d.Fetch(nil, nil), api.Reply{Ask: 9, Err: api.ErrMissing, At: l.Last()})
}

func TestNeedsAndDrop(t *testing.T) { // P22.5
	data := strings.Repeat("p", 64) + "r"
	l := load(t, "a", data, "b", "r", "c", "other", "d", "one", "e", "two", "f", "three")
	d := desk.New()
	add(t, d, 3, api.Ask{Kind: api.AskRestore, Name: "c"}, 2, 1)
	add(t, d, 4, api.Ask{Kind: api.AskPut, Name: "c"}, 1, 1)
	add(t, d, 5, api.Ask{Kind: api.AskRestore, Name: "a"}, 1, 1)
	add(t, d, 6, api.Ask{Kind: api.AskRestore, Name: "b"}, 1, 1)
	for i, name := range []string{"d", "e", "f"} {
		add(t, d, 7+i, api.Ask{Kind: api.AskRestore, Name: name}, 1, 1)
	}
	if len(d.Needs()) != 0 {
		t.Fatal(d.Needs())
	}
	says(t, d.Agreed(1, 1, ok, l))
	want := slices.Concat(sheetOf(data).Hashes, sheetOf("one").Hashes, sheetOf("two").Hashes, sheetOf("three").Hashes)
	slices.Sort(want)
	if got := d.Needs(); !slices.Equal(got, want) {
		t.Fatal(got)
	}
	d.Needs()[0] = "turned"
	if got := d.Needs(); !slices.Equal(got, want) {
		t.Fatal("what is answered is new memory")
	}
	var all []api.Reply
	for n := 3; n <= 9; n++ {
		all = append(all, api.Reply{Ask: n, Err: api.ErrUnsure})
	}
	says(t, d.Drop(), all...)
	waits(t, d, 0)
	says(t, d.Drop())
	if len(d.Needs()) != 0 {
		t.Fatal(d.Needs())
	}
}

func TestCopyAndNil(t *testing.T) { // P22.6
	l := load(t, "a", "x")
	d := desk.New()
	add(t, d, 0, api.Ask{Kind: api.AskPut}, 1, 1)
	add(t, d, 1, api.Ask{Kind: api.AskRestore, Name: "a"}, 1, 1)
	c := d.Copy()
	says(t, d.Agreed(1, 1, ok, l))
	if len(c.Needs()) != 0 || len(d.Needs()) != 1 {
		t.Fatal("they know nothing of each other")
	}
	says(t, c.Agreed(1, 2, ok, l), api.Reply{Ask: 0, Err: api.ErrUnsure}, api.Reply{Ask: 1, Err: api.ErrUnsure})
	waits(t, d, 2)
	c = d.Copy()
	add(t, c, 2, api.Ask{}, 1, 1)
	waits(t, d, 2)
	says(t, d.Settle(l, reach(2, 1), at(0, 0), api.Reach{}), api.Reply{Ask: 0, At: at(2, 1)})
	waits(t, c, 3)
	var n *desk.Desk
	if n.Add(0, api.Ask{}, 1, 1) != api.ErrNil || n.Agreed(1, 1, ok, l) != nil || n.Settle(l, reach(2, 1), at(2, 1), reach(2, 1)) != nil || n.Fetch(nil, l) != nil || n.Needs() != nil || n.Drop() != nil || n.Len() != 0 || n.Copy() != nil {
		t.Fatal("a nil desk")
	}
}

func TestExample(t *testing.T) { // P22.7
	l := load(t, "a", "x")
	d := desk.New()
	add(t, d, 0, api.Ask{Kind: api.AskPut, Name: "a"}, 1, 1)
	says(t, d.Agreed(1, 1, ok, l))
	says(t, d.Settle(l, reach(1, 1), at(0, 0), api.Reach{}))
	says(t, d.Settle(l, reach(2, 1, 2), at(0, 0), api.Reach{}))
	says(t, d.Settle(l, reach(2, 1), at(0, 0), api.Reach{}), api.Reply{Ask: 0, At: at(2, 1)})
	says(t, d.Settle(l, reach(2, 1), at(2, 1), reach(2, 1)))
	says(t, d.Drop())
}
