package ledger_test

import (
	"fmt"
	"math"
	"math/rand"
	"reflect"
	"slices"
	"strings"
	"testing"

	"redoubt/api"
	"redoubt/deed"
	"redoubt/ledger"
	"redoubt/pack"
	"redoubt/sheet"
)

func sheetOf(data string) api.Sheet {
	s, e := sheet.Make(data)
	if e != api.OK {
		panic(e)
	}
	return s
}

func fresh(t *testing.T, quota, room int) *ledger.Ledger {
	t.Helper()
	l, e := ledger.New(quota, room)
	if e != api.OK {
		t.Fatal(e)
	}
	return l
}

func reign(epoch, site int) api.Command {
	return api.Command{Kind: api.CmdReign, Epoch: epoch, Site: site}
}

func put(epoch, site, client, seq int, name, data string) api.Command {
	return api.Command{Kind: api.CmdDo, Epoch: epoch, Site: site, Op: api.Op{Kind: api.OpPut, Client: client, Seq: seq, Name: name, Sheet: sheetOf(data)}}
}

func drop(epoch, site, client, seq int, name string) api.Command {
	return api.Command{Kind: api.CmdDo, Epoch: epoch, Site: site, Op: api.Op{Kind: api.OpDrop, Client: client, Seq: seq, Name: name}}
}

func mark(epoch, site, after, since int) api.Command {
	return api.Command{Kind: api.CmdMark, Epoch: epoch, Site: site, After: after, Since: since}
}

func ship(epoch, site, after, since int, ops ...api.Op) api.Command {
	return api.Command{Kind: api.CmdShip, Epoch: epoch, Site: site, After: after, Since: since, Ops: ops}
}

func opReign(n, epoch, site int) api.Op {
	return api.Op{N: n, Epoch: epoch, Kind: api.OpReign, Site: site}
}

func opPut(n, epoch, site, client, seq int, name, data string) api.Op {
	return api.Op{N: n, Epoch: epoch, Kind: api.OpPut, Site: site, Client: client, Seq: seq, Name: name, Sheet: sheetOf(data)}
}

func opDrop(n, epoch, site, client, seq int, name string) api.Op {
	return api.Op{N: n, Epoch: epoch, Kind: api.OpDrop, Site: site, Client: client, Seq: seq, Name: name}
}

// at does a command that is to be OK at a place; not does one that is to be refused.
func at(t *testing.T, l *ledger.Ledger, c api.Command, n, epoch int) {
	t.Helper()
	if d := l.Apply(c); d != (api.Done{At: api.Spot{N: n, Epoch: epoch}}) {
		t.Fatalf("%+v", d)
	}
}

func not(t *testing.T, l *ledger.Ledger, c api.Command, e api.Errno) {
	t.Helper()
	before := l.Pack()
	if d := l.Apply(c); d != (api.Done{Err: e}) {
		t.Fatalf("%+v", d)
	}
	if l.Pack() != before {
		t.Fatal("what is refused changes nothing")
	}
}

func sameOps(a, b []api.Op) bool {
	if len(a) != len(b) {
		return false
	}
	for i := range a {
		x, y := a[i], b[i]
		if x.Sheet.Size != y.Sheet.Size || !slices.Equal(x.Sheet.Hashes, y.Sheet.Hashes) {
			return false
		}
		x.Sheet, y.Sheet = api.Sheet{}, api.Sheet{}
		if !reflect.DeepEqual(x, y) {
			return false
		}
	}
	return true
}

func ops(t *testing.T, l *ledger.Ledger, want ...api.Op) {
	t.Helper()
	if !sameOps(l.Ops(), want) {
		t.Fatalf("operations %+v", l.Ops())
	}
}

func lost(t *testing.T, l *ledger.Ledger, want ...api.Op) {
	t.Helper()
	for i := range want {
		want[i].Sheet.Hashes = nil
	}
	if !sameOps(l.Lost(), want) {
		t.Fatalf("lost %+v", l.Lost())
	}
}

func TestNew(t *testing.T) { // P12.1
	for _, c := range [][2]int{{0, 1}, {1<<16 + 1, 1}, {1, 0}, {1, 65}, {-1, -1}, {math.MinInt, math.MaxInt}} {
		if l, e := ledger.New(c[0], c[1]); l != nil || e != api.ErrArg {
			t.Fatal(c, e)
		}
		if l, e := ledger.Load(c[0], c[1], "x"); l != nil || e != api.ErrArg {
			t.Fatal(c, e)
		}
	}
	fresh(t, 1, 1)
	l := fresh(t, 1<<16, 64)
	if len(l.Ops()) != 0 || len(l.Lost()) != 0 || l.Fence() != 0 || l.Holder() != (api.Grant{}) || l.Last() != (api.Spot{}) || l.Settled() != 0 || l.Used() != 0 || len(l.Names()) != 0 || len(l.Puts()) != 0 || len(l.Needs()) != 0 {
		t.Fatal("a new one")
	}
}

func TestExample(t *testing.T) { // P12.2
	l := fresh(t, 1000, 64)
	at(t, l, reign(1, 0), 1, 1)
	not(t, l, reign(1, 0), api.ErrStale)
	at(t, l, put(1, 0, 2, 1, "a", "x"), 2, 1)
	at(t, l, put(1, 0, 2, 1, "a", "x"), 2, 1)
	not(t, l, put(1, 0, 2, 2, "a", "x"), api.ErrThere)
	at(t, l, ship(2, 1, 1, 1, opReign(2, 2, 1)), 2, 2)
	lost(t, l, opPut(2, 1, 0, 2, 1, "a", "x"))
	not(t, l, put(1, 0, 2, 2, "b", "x"), api.ErrStale)
}

func TestIdleLookAndForm(t *testing.T) { // P12.2
	l := fresh(t, 1000, 64)
	at(t, l, api.Command{}, 0, 0)
	at(t, l, reign(3, 1), 1, 3)
	at(t, l, api.Command{}, 1, 3)
	at(t, l, api.Command{Kind: api.CmdLook, Tag: 9}, 1, 3)
	for _, c := range []api.Command{{Kind: 9}, {Tag: 1}, {Kind: api.CmdReign}, ship(2, 0, 1, 3), mark(1, 0, 1, 2)} {
		not(t, l, c, api.ErrForm)
	}
	if (*ledger.Ledger)(nil).Apply(api.Command{Kind: 9}) != (api.Done{Err: api.ErrNil}) {
		t.Fatal("nil")
	}
}

func TestReign(t *testing.T) { // P12.2
	l := fresh(t, 1000, 64)
	at(t, l, reign(2, 1), 1, 2)
	not(t, l, reign(2, 0), api.ErrStale)
	not(t, l, reign(1, 1), api.ErrStale)
	if l.Fence() != 2 || l.Holder() != (api.Grant{Epoch: 2, Site: 1}) {
		t.Fatal(l.Fence(), l.Holder())
	}
	at(t, l, reign(5, 0), 2, 5)
	at(t, l, ship(7, 1, 0, 0), 0, 0)
	if l.Fence() != 7 || l.Holder() != (api.Grant{Epoch: 5, Site: 0}) {
		t.Fatal(l.Fence(), l.Holder())
	}
	not(t, l, reign(7, 0), api.ErrStale)
	ops(t, l, opReign(1, 2, 1), opReign(2, 5, 0))
}

func TestDo(t *testing.T) { // P12.2
	l := fresh(t, 10, 6)
	not(t, l, put(1, 0, 0, 1, "a", "x"), api.ErrStale)
	at(t, l, reign(2, 0), 1, 2)
	not(t, l, put(1, 0, 0, 1, "a", "x"), api.ErrStale)
	not(t, l, put(3, 0, 0, 1, "a", "x"), api.ErrStale)
	not(t, l, put(2, 1, 0, 1, "a", "x"), api.ErrStale)
	not(t, l, drop(2, 0, 0, 1, "a"), api.ErrNotFound)
	at(t, l, put(2, 0, 0, 5, "a", "123456"), 2, 2)
	if l.Used() != 6 || !slices.Equal(l.Names(), []string{"a"}) {
		t.Fatal(l.Used(), l.Names())
	}
	not(t, l, put(2, 0, 0, 4, "b", "x"), api.ErrOld)
	at(t, l, drop(2, 0, 0, 5, "zz"), 2, 2) // the same Seq: whatever else it has
	not(t, l, put(2, 0, 1, 1, "a", "x"), api.ErrThere)
	not(t, l, put(2, 0, 1, 1, "a", strings.Repeat("x", 50)), api.ErrThere)
	not(t, l, put(2, 0, 1, 1, "b", "12345"), api.ErrQuota)
	at(t, l, put(2, 0, 1, 1, "b", "1234"), 3, 2)
	at(t, l, put(2, 0, 3, 1, "empty", ""), 4, 2)
	not(t, l, put(2, 0, 3, 2, "c", "x"), api.ErrQuota)
	at(t, l, drop(2, 0, 0, 6, "a"), 5, 2)
	not(t, l, drop(2, 0, 0, 7, "a"), api.ErrNotFound)
	if l.Used() != 4 || !slices.Equal(l.Names(), []string{"b", "empty"}) {
		t.Fatal(l.Used(), l.Names())
	}
	at(t, l, put(2, 0, 0, 1<<40, "a", "654321"), 6, 2)
	not(t, l, put(2, 0, 7, 1, "b", "x"), api.ErrThere)
	not(t, l, put(2, 0, 7, 1, "z", "x"), api.ErrQuota)
	not(t, l, drop(2, 0, 7, 1, "z"), api.ErrNotFound)
	not(t, l, drop(2, 0, 7, 1, "b"), api.ErrSaturated)
	not(t, l, put(2, 0, 7, 1, "z", ""), api.ErrSaturated)
	at(t, l, put(2, 0, 1, 1, "none", ""), 3, 2)
	at(t, l, reign(3, 1), 7, 3)
	not(t, l, put(2, 0, 1, 1, "b", "1234"), api.ErrStale)
	at(t, l, put(3, 1, 1, 1, "b", "1234"), 3, 2) // asked again in a new epoch
	s, ok := l.Sheet("a")
	if !ok || s.Size != 6 || s.Hashes[0] != sheetOf("654321").Hashes[0] {
		t.Fatal(s, ok)
	}
	if s, ok := l.Sheet("none"); ok || s.Size != 0 || s.Hashes != nil {
		t.Fatal(s)
	}
	at(t, l, ship(4, 0, 0, 0), 0, 0)
	not(t, l, put(4, 0, 1, 2, "q", ""), api.ErrStale) // the fence alone isn't enough
	not(t, l, put(3, 1, 1, 2, "q", ""), api.ErrStale)
}

func TestSaturated(t *testing.T) { // P12.2
	l := fresh(t, 1000, 64)
	at(t, l, reign(1, 0), 1, 1)
	for n := 2; n <= 64; n++ {
		at(t, l, put(1, 0, 0, n, fmt.Sprint(n), ""), n, 1)
	}
	not(t, l, drop(1, 0, 0, 65, "2"), api.ErrSaturated)
	for n := 65; n <= 72; n++ {
		at(t, l, ship(1, 0, n-1, 1, opPut(n, 1, 0, 1, n, "s"+fmt.Sprint(n), "")), n, 1)
	}
	for e := 2; e <= 9; e++ {
		at(t, l, reign(e, 1), 71+e, e)
	}
	not(t, l, reign(10, 1), api.ErrSaturated)
	if len(l.Ops()) != 80 || l.Fence() != 9 {
		t.Fatal(len(l.Ops()), l.Fence())
	}
}

func TestShip(t *testing.T) { // P12.2
	l := fresh(t, 1000, 64)
	a, b, c := opPut(2, 1, 0, 0, 1, "a", "aaa"), opPut(3, 1, 0, 0, 2, "b", "bb"), opDrop(4, 1, 0, 0, 3, "a")
	at(t, l, ship(1, 0, 0, 0, opReign(1, 1, 0), a), 2, 1)
	if l.Settled() != 2 || l.Fence() != 1 {
		t.Fatal(l.Settled())
	}
	at(t, l, ship(1, 0, 0, 0, opReign(1, 1, 0), a, b), 3, 1) // passed over, and one more
	at(t, l, ship(1, 0, 1, 1, a), 2, 1)
	if l.Settled() != 3 {
		t.Fatal(l.Settled())
	}
	ops(t, l, opReign(1, 1, 0), a, b)
	not(t, l, ship(1, 0, 4, 1, opPut(5, 1, 0, 0, 9, "z", "")), api.ErrGap)
	not(t, l, ship(1, 1, 3, 1), api.ErrStale) // the holder's epoch, another site
	at(t, l, ship(1, 0, 3, 1), 3, 1)
	at(t, l, ship(1, 0, 3, 1, c), 4, 1)
	if !slices.Equal(l.Names(), []string{"b"}) || l.Used() != 2 {
		t.Fatal(l.Names(), l.Used())
	}
	// a gap, but the fence is what came
	before := l.Ops()
	if d := l.Apply(ship(3, 1, 4, 2)); d != (api.Done{Err: api.ErrGap}) || l.Fence() != 3 || !sameOps(l.Ops(), before) {
		t.Fatal(d, l.Fence())
	}
	not(t, l, ship(2, 1, 0, 0), api.ErrStale)
	// the seam: what stood there is lost
	at(t, l, ship(3, 1, 2, 1, opReign(3, 3, 1), opPut(4, 3, 1, 0, 2, "b", "other")), 4, 3)
	lost(t, l, b, c)
	ops(t, l, opReign(1, 1, 0), a, opReign(3, 3, 1), opPut(4, 3, 1, 0, 2, "b", "other"))
	if l.Settled() != 4 || l.Holder() != (api.Grant{Epoch: 3, Site: 1}) || l.Used() != 8 || !slices.Equal(l.Names(), []string{"a", "b"}) {
		t.Fatal(l.Settled(), l.Holder(), l.Used())
	}
	// an operation that is no reign, of another site than the one ahead
	if d := l.Apply(ship(3, 1, 2, 1, opPut(3, 1, 1, 0, 2, "q", ""))); d != (api.Done{Err: api.ErrGap}) {
		t.Fatal(d)
	}
	// the same site: it stands there, and what was behind is lost
	at(t, l, ship(3, 1, 2, 1, opPut(3, 1, 0, 0, 2, "q", "")), 3, 1)
	lost(t, l, b, c, opReign(3, 3, 1), opPut(4, 3, 1, 0, 2, "b", "other"))
	if l.Settled() != 3 {
		t.Fatal(l.Settled())
	}
	// all of it
	at(t, l, ship(9, 0, 0, 0, opReign(1, 9, 0)), 1, 9)
	if len(l.Lost()) != 7 || l.Settled() != 1 || l.Used() != 0 || len(l.Names()) != 0 {
		t.Fatal(l.Lost(), l.Settled())
	}
}

func TestShipSettled(t *testing.T) { // P12.2
	l := fresh(t, 1000, 64)
	at(t, l, reign(1, 0), 1, 1)
	for n := 2; n <= 5; n++ {
		at(t, l, put(1, 0, 0, n, fmt.Sprint(n), "x"), n, 1)
	}
	if l.Settled() != 0 {
		t.Fatal(l.Settled())
	}
	at(t, l, mark(1, 0, 4, 1), 4, 1)
	at(t, l, mark(1, 0, 2, 1), 2, 1)
	if l.Settled() != 4 {
		t.Fatal(l.Settled())
	}
	not(t, l, mark(1, 0, 6, 1), api.ErrGap)
	not(t, l, mark(1, 1, 2, 1), api.ErrStale)
	not(t, l, mark(2, 0, 2, 1), api.ErrStale)
	not(t, l, mark(2, 0, 2, 2), api.ErrStale)
	at(t, l, ship(2, 1, 2, 1), 2, 1)
	if l.Settled() != 4 {
		t.Fatal(l.Settled())
	}
	not(t, l, mark(2, 1, 5, 1), api.ErrStale)
	at(t, l, ship(2, 1, 2, 1, opReign(3, 2, 1)), 3, 2)
	if l.Settled() != 3 || len(l.Lost()) != 3 {
		t.Fatal(l.Settled())
	}
	not(t, l, mark(2, 1, 3, 1), api.ErrGap)
	at(t, l, mark(2, 1, 3, 2), 3, 2)
}

// needed is, by the words, the numbers of the puts that a name means behind the first n operations, for any n from the settled one on.
func needed(l *ledger.Ledger) []int {
	all := l.Ops()
	var list []int
	for i, o := range all {
		if o.Kind != api.OpPut {
			continue
		}
		for n := max(l.Settled(), o.N); n <= len(all); n++ {
			means := true
			for _, later := range all[i+1 : n] {
				means = means && (later.Kind == api.OpReign || later.Name != o.Name)
			}
			if means {
				list = append(list, o.N)
				break
			}
		}
	}
	return list
}

func check(t *testing.T, l *ledger.Ledger) {
	t.Helper()
	all := l.Ops()
	if !deed.Row(api.Spot{}, all...) || l.Fence() < l.Last().Epoch || l.Settled() > len(all) {
		t.Fatal("a row, below the fence")
	}
	var numbers []int
	var needs []string
	for _, o := range l.Puts() {
		if !sameOps([]api.Op{o}, all[o.N-1:o.N]) {
			t.Fatal("a put that isn't among the operations")
		}
		numbers = append(numbers, o.N)
		needs = append(needs, o.Sheet.Hashes...)
	}
	slices.Sort(needs)
	needs = slices.Compact(needs)
	if !slices.Equal(numbers, needed(l)) || !slices.Equal(l.Needs(), needs) {
		t.Fatal("needed", numbers, needed(l))
	}
	live := map[string]api.Op{}
	for _, o := range all {
		if o.Kind == api.OpPut {
			live[o.Name] = o
		} else {
			delete(live, o.Name)
		}
	}
	used := 0
	names := []string{}
	for name, o := range live {
		used += o.Sheet.Size
		names = append(names, name)
		if s, ok := l.Sheet(name); !ok || !reflect.DeepEqual(s, o.Sheet) && s.Size > 0 {
			t.Fatal("sheet of", name)
		}
	}
	slices.Sort(names)
	if used != l.Used() || !slices.Equal(names, append([]string{}, l.Names()...)) {
		t.Fatal("used", used, l.Used())
	}
	same, e := ledger.Load(400, 30, l.Pack())
	if e != api.OK || same.Pack() != l.Pack() || !sameOps(same.Ops(), all) || !sameOps(same.Lost(), l.Lost()) || same.Fence() != l.Fence() || same.Settled() != l.Settled() || same.Used() != l.Used() {
		t.Fatal("there and back", e)
	}
}

// TestTwoSites plays two ledgers, of which each ships what it made in epochs that were given to it alone.
func TestTwoSites(t *testing.T) { // P12.2, P12.3, P12.6
	for seed := range 200 {
		rnd := rand.New(rand.NewSource(int64(seed)))
		l := [2]*ledger.Ledger{fresh(t, 400, 30), fresh(t, 400, 30)}
		epoch, owner := 0, 0
		for range 120 {
			site := rnd.Intn(2)
			me, other := l[site], l[1-site]
			fence := me.Fence()
			switch rnd.Intn(8) {
			case 0:
				if epoch < 14 && rnd.Intn(3) == 0 {
					epoch, owner = epoch+1, site
					l[owner].Apply(reign(epoch, owner))
				}
			case 1, 2, 3:
				name := string([]byte{byte('a' + rnd.Intn(5))})
				c := put(me.Fence(), site, rnd.Intn(3), 1+rnd.Intn(20), name, strings.Repeat(name, rnd.Intn(150)))
				if rnd.Intn(2) == 0 {
					c = drop(me.Fence(), site, rnd.Intn(3), 1+rnd.Intn(20), name)
				}
				me.Apply(c)
			case 4, 5, 6:
				all := me.Ops()
				if h := me.Holder(); h.Epoch > 0 && h == (api.Grant{Epoch: me.Fence(), Site: site}) {
					from := rnd.Intn(len(all) + 1)
					to := min(len(all), from+rnd.Intn(9))
					after := api.Spot{}
					if from > 0 {
						after = api.Spot{N: from, Epoch: all[from-1].Epoch}
					}
					d := other.Apply(ship(h.Epoch, site, after.N, after.Epoch, all[from:to]...))
					if d.Err == api.OK {
						me.Apply(mark(h.Epoch, site, max(d.At.N, 1), max(d.At.Epoch, 1)))
					}
				}
			case 7:
				me.Apply(mark(max(1, me.Fence()), site, 1+rnd.Intn(5), 1))
			}
			if me.Fence() < fence {
				t.Fatal("the fence fell")
			}
			check(t, me)
			check(t, other)
			a, b := me.Ops(), other.Ops()
			for n := min(len(a), len(b)); n > 0; n-- {
				if a[n-1].Epoch == b[n-1].Epoch {
					if !sameOps(a[:n], b[:n]) {
						t.Fatal("one place, two histories")
					}
					break
				}
			}
		}
	}
}

func TestPackAndLoad(t *testing.T) { // P12.4
	l := fresh(t, 1000, 64)
	if l.Pack() != "\x00\x00\x00\x00" {
		t.Fatalf("%x", l.Pack())
	}
	at(t, l, reign(1, 0), 1, 1)
	at(t, l, put(1, 0, 7, 1<<40, "name", "some data"), 2, 1)
	at(t, l, mark(1, 0, 1, 1), 1, 1)
	at(t, l, ship(4, 1, 1, 1, opReign(2, 3, 1)), 2, 3)
	want := pack.Nums(4, 2) + deed.PackOps(l.Ops()...) + pack.Nums(1, 2, 1, api.OpPut, 0, 7, 1<<40, 9) + pack.Text("name")
	if l.Pack() != want {
		t.Fatalf("%x", l.Pack())
	}
	row := []api.Op{opReign(1, 2, 0), opPut(2, 2, 0, 0, 1, "x", "data")}
	text := func(fence, settled int, ops []api.Op, lost ...int) string {
		s := pack.Nums(fence, settled) + deed.PackOps(ops...) + pack.Nums(len(lost)/8)
		for i := 0; i < len(lost); i += 8 {
			s += pack.Nums(lost[i:i+7]...) + pack.Text(strings.Repeat("n", lost[i+7]))
		}
		return s
	}
	for i, good := range []string{text(2, 0, row), text(16, 2, row), text(0, 0, nil), text(7, 0, nil), text(2, 1, row, 1, 1, 1, 0, 0, 0, 0, 0), text(2, 1, row, 80, 16, 3, 1, 7, 1<<40, 512, 16, 1, 1, 2, 0, 0, 0, 0, 0)} {
		l, e := ledger.Load(1, 1, good)
		if e != api.OK || l.Pack() != good {
			t.Fatal(i, e)
		}
		for cut := range good {
			if l, e := ledger.Load(1, 1, good[:cut]); l != nil || e != api.ErrForm {
				t.Fatal(i, cut, e)
			}
		}
		if _, e := ledger.Load(1, 1, good+"\x00"); e != api.ErrForm {
			t.Fatal(i)
		}
	}
	for i, bad := range []string{
		"", text(1, 0, row), text(17, 0, row), text(-1, 0, nil), text(17, 0, nil), text(2, 3, row), text(2, -1, row), text(2, 1, nil),
		text(2, 0, row[1:]), text(2, 0, []api.Op{row[0], row[0]}), text(2, 0, []api.Op{{}}), pack.Nums(0, 0, -1, 0), pack.Nums(0, 0, math.MaxInt), pack.Nums(0, 0, 0, 1), pack.Nums(0, 0, 0, -1),
		text(2, 0, row, 0, 1, 1, 0, 0, 0, 0, 0), text(2, 0, row, 81, 1, 1, 0, 0, 0, 0, 0), text(2, 0, row, 1, 0, 1, 0, 0, 0, 0, 0), text(2, 0, row, 1, 17, 1, 0, 0, 0, 0, 0),
		text(2, 0, row, 1, 1, 0, 0, 0, 0, 0, 0), text(2, 0, row, 1, 1, 4, 0, 0, 0, 0, 0), text(2, 0, row, 1, 1, 1, 2, 0, 0, 0, 0), text(2, 0, row, 1, 1, 1, -1, 0, 0, 0, 0),
		text(2, 0, row, 1, 1, 1, 0, 8, 0, 0, 0), text(2, 0, row, 1, 1, 1, 0, -1, 0, 0, 0), text(2, 0, row, 1, 1, 1, 0, 0, -1, 0, 0), text(2, 0, row, 1, 1, 1, 0, 0, 1<<40+1, 0, 0),
		text(2, 0, row, 1, 1, 1, 0, 0, 0, -1, 0), text(2, 0, row, 1, 1, 1, 0, 0, 0, 513, 0), text(2, 0, row, 1, 1, 1, 0, 0, 0, 0, 17),
	} {
		if l, e := ledger.Load(1000, 64, bad); l != nil || e != api.ErrForm {
			t.Fatal(i, e)
		}
	}
	// room and quota are those that are asked for
	l, _ = ledger.Load(5, 3, text(2, 0, row))
	not(t, l, put(2, 0, 0, 2, "y", "12"), api.ErrQuota)
	at(t, l, put(2, 0, 0, 2, "y", "1"), 3, 2)
	not(t, l, drop(2, 0, 0, 3, "y"), api.ErrSaturated)
}

func TestCopyAndOwnMemory(t *testing.T) { // P12.5
	l := fresh(t, 1000, 64)
	at(t, l, reign(1, 0), 1, 1)
	c := put(1, 0, 0, 1, "a", "data")
	at(t, l, c, 2, 1)
	c.Op.Sheet.Hashes[0] = "turned in"
	shipped := []api.Op{opPut(3, 1, 0, 0, 2, "b", "more")}
	at(t, l, ship(1, 0, 2, 1, shipped...), 3, 1)
	shipped[0].Sheet.Hashes[0] = "turned in"
	shipped[0].Name = "turned"
	before := l.Pack()
	if strings.Contains(before, "turned") {
		t.Fatal("what is handed in isn't kept")
	}
	twin := l.Copy()
	if twin.Pack() != before || twin.Used() != l.Used() {
		t.Fatal("one with the same")
	}
	l.Ops()[1].Sheet.Hashes[0] = "turned"
	l.Puts()[0].Sheet.Hashes[0] = "turned"
	l.Needs()[0] = "turned"
	s, _ := l.Sheet("a")
	s.Hashes[0] = "turned"
	l.Names()[0] = "turned"
	if l.Pack() != before || twin.Pack() != before || !slices.Equal(l.Names(), []string{"a", "b"}) {
		t.Fatal("what is answered is new memory")
	}
	at(t, twin, drop(1, 0, 0, 3, "a"), 4, 1)
	at(t, l, put(1, 0, 0, 3, "c", "ccc"), 4, 1)
	if !slices.Equal(l.Names(), []string{"a", "b", "c"}) || !slices.Equal(twin.Names(), []string{"b"}) {
		t.Fatal("they know nothing of each other")
	}
	not(t, twin, drop(1, 0, 0, 4, "a"), api.ErrNotFound)
	if a, b := l.Ops(), twin.Ops(); a[3].Name != "c" || b[3].Name != "a" || b[3].Kind != api.OpDrop {
		t.Fatal("they know nothing of each other")
	}
	for n := range 12 {
		at(t, l, put(1, 0, 5, n+1, fmt.Sprint(n), ""), n+5, 1)
		a, b := l.Copy(), l.Copy()
		a.Apply(put(1, 0, 6, 1, "of a", ""))
		b.Apply(put(1, 0, 6, 1, "of b", ""))
		if a.Ops()[n+5].Name != "of a" || len(l.Ops()) != n+5 {
			t.Fatal("they know nothing of each other", n)
		}
	}
	at(t, l, ship(2, 1, 0, 0, opReign(1, 2, 1)), 1, 2)
	third := l.Copy()
	at(t, third, ship(3, 1, 0, 0, opReign(1, 3, 1)), 1, 3)
	if len(l.Lost()) != 16 || len(third.Lost()) != 17 {
		t.Fatal(len(l.Lost()), len(third.Lost()))
	}
}

func TestNil(t *testing.T) { // P12.5
	var l *ledger.Ledger
	if s, ok := l.Sheet("a"); ok || s.Size != 0 || s.Hashes != nil {
		t.Fatal(s)
	}
	if l.Ops() != nil || l.Lost() != nil || l.Fence() != 0 || l.Holder() != (api.Grant{}) || l.Last() != (api.Spot{}) || l.Names() != nil || l.Puts() != nil || l.Needs() != nil || l.Settled() != 0 || l.Used() != 0 || l.Pack() != "" || l.Copy() != nil {
		t.Fatal("a nil ledger")
	}
}
