package lane_test

import (
	"math"
	"math/rand"
	"reflect"
	"slices"
	"testing"

	"redoubt/api"
	"redoubt/lane"
	"redoubt/ledger"
	"redoubt/mail"
	"redoubt/sheet"
)

func reign(n, epoch, site int) api.Op {
	return api.Op{N: n, Epoch: epoch, Kind: api.OpReign, Site: site}
}

func put(n, epoch, site int) api.Op {
	s, _ := sheet.Make(string([]byte{byte(n), byte(epoch)}))
	return api.Op{N: n, Epoch: epoch, Kind: api.OpPut, Site: site, Seq: n, Name: string([]byte{'a', byte(n)}), Sheet: s}
}

// row is operations of one epoch, behind the first of which puts follow.
func row(epoch, site, n int) []api.Op {
	list := []api.Op{reign(1, epoch, site)}
	for len(list) < n {
		list = append(list, put(len(list)+1, epoch, site))
	}
	return list[:n]
}

func at(n, epoch int) api.Spot { return api.Spot{N: n, Epoch: epoch} }

func start(t *testing.T, epoch, site, n int) *lane.Lane {
	t.Helper()
	l, e := lane.New(epoch, site, n)
	if e != api.OK {
		t.Fatal(e)
	}
	return l
}

func same(a, b api.Mail) bool {
	if len(a.Ops) == 0 && len(b.Ops) == 0 {
		a.Ops, b.Ops = nil, nil
	}
	if len(a.Holes) == 0 && len(b.Holes) == 0 {
		a.Holes, b.Holes = nil, nil
	}
	return reflect.DeepEqual(a, b)
}

// load is a ledger with these operations, and that fence.
func load(t *testing.T, fence int, ops ...api.Op) *ledger.Ledger {
	t.Helper()
	l, e := ledger.New(1<<16, 64)
	if e != api.OK {
		t.Fatal(e)
	}
	after := api.Spot{}
	for len(ops) > 0 {
		n := min(8, len(ops))
		last := ops[n-1]
		d := l.Apply(api.Command{Kind: api.CmdShip, Epoch: last.Epoch, Site: last.Site, After: after.N, Since: after.Epoch, Ops: ops[:n]})
		if d.Err != api.OK {
			t.Fatal(d)
		}
		after, ops = d.At, ops[n:]
	}
	if fence > l.Fence() {
		l.Apply(api.Command{Kind: api.CmdShip, Epoch: fence})
	}
	return l
}

func TestNew(t *testing.T) { // P18.1
	for _, c := range [][3]int{{0, 0, 0}, {17, 0, 0}, {-1, 0, 0}, {1, 2, 0}, {1, -1, 0}, {1, 0, -1}, {1, 0, 81}, {math.MaxInt, 0, 0}} {
		if l, e := lane.New(c[0], c[1], c[2]); l != nil || e != api.ErrArg {
			t.Fatal(c, e)
		}
	}
	for _, n := range []int{0, 7, 80} {
		l := start(t, 16, 1, n)
		if l.Next() != n || l.Mark() != (api.Spot{}) || l.Whole().At != (api.Spot{}) || len(l.Whole().Holes) != 0 {
			t.Fatal(n)
		}
	}
}

func TestOffer(t *testing.T) { // P18.2
	ops := row(2, 1, 12)
	for _, c := range []struct{ next, at, to int }{{0, 0, 8}, {1, 1, 9}, {4, 4, 12}, {5, 5, 12}, {11, 11, 12}, {12, 12, 12}, {13, 12, 12}, {80, 12, 12}} {
		m := start(t, 3, 1, c.next).Offer(ops)
		want := api.Mail{Kind: api.MailShip, Epoch: 3, Site: 1, Ops: ops[c.at:c.to]}
		if c.at > 0 {
			want.At = at(c.at, 2)
		}
		if !same(m, want) {
			t.Fatalf("%+v: %+v", c, m)
		}
		if len(m.Ops) > 0 {
			before := ops[c.at].N
			m.Ops[0].N = 99
			if ops[c.at].N != before {
				t.Fatal("what is answered is new memory")
			}
		}
	}
	m := start(t, 3, 0, 1).Offer(ops)
	m.Ops[0].Sheet.Hashes[0] = "turned"
	if ops[1].Sheet.Hashes[0] == "turned" {
		t.Fatal("what is answered is new memory")
	}
	if m := start(t, 3, 0, 5).Offer(nil); !same(m, api.Mail{Kind: api.MailShip, Epoch: 3}) {
		t.Fatal(m)
	}
}

func shipped(epoch int, good bool, spot api.Spot) api.Mail {
	return api.Mail{Kind: api.MailShipped, Epoch: epoch, Good: good, At: spot}
}

func TestTakeRefused(t *testing.T) { // P18.3
	l := start(t, 2, 0, 5)
	ops := row(2, 0, 6)
	for _, m := range []api.Mail{{}, {Kind: api.MailShip, Epoch: 2}, shipped(0, true, at(1, 2)), shipped(17, true, at(1, 2)), shipped(2, true, at(0, 2)), {Kind: api.MailShipped, Epoch: 2, Good: true, Term: 1, At: at(3, 2)}, {Kind: api.MailShipped, Epoch: 2, Good: true, Holes: []int{1}}} {
		if l.Take(m, ops) != 0 {
			t.Fatal(m)
		}
	}
	for _, epoch := range []int{1, 3, 16} {
		m := shipped(epoch, true, at(3, 2))
		m.Whole = at(3, 2)
		if l.Take(m, ops) != epoch || l.Take(shipped(epoch, false, api.Spot{}), ops) != epoch {
			t.Fatal(epoch)
		}
	}
	if l.Next() != 5 || l.Mark() != (api.Spot{}) || l.Whole().At != (api.Spot{}) {
		t.Fatal("of another epoch nothing is noted")
	}
}

func TestTakeGood(t *testing.T) { // P18.3
	l := start(t, 2, 0, 2)
	ops := row(2, 0, 9)
	take := func(spot, whole api.Spot, next, mark, wholeN int, holes []int, kept ...int) {
		t.Helper()
		m := shipped(2, true, spot)
		m.Whole, m.Holes = whole, holes
		if l.Take(m, ops) != 2 {
			t.Fatal("its epoch is answered")
		}
		if l.Next() != next || l.Mark().N != mark || l.Whole().At.N != wholeN || !slices.Equal(append([]int{}, l.Whole().Holes...), append([]int{}, kept...)) {
			t.Fatal(l.Next(), l.Mark(), l.Whole())
		}
		if len(holes) > 0 {
			holes[0] = 99
			if slices.Contains(l.Whole().Holes, 99) {
				t.Fatal("what is handed in isn't kept")
			}
		}
	}
	take(at(1, 2), api.Spot{}, 2, 1, 0, nil)
	take(at(4, 2), api.Spot{}, 4, 4, 0, nil)
	take(at(3, 2), at(3, 2), 4, 4, 3, []int{2}, 2)
	take(at(5, 1), api.Spot{}, 4, 4, 3, nil, 2)      // a place that they haven't; and a whole that is behind
	take(at(10, 2), at(4, 1), 4, 4, 3, nil, 2)       // neither
	take(at(10, 2), at(6, 2), 4, 4, 6, nil)          // whole, though not At
	take(at(7, 2), at(5, 2), 7, 7, 6, nil)           // an older whole
	take(api.Spot{}, at(6, 2), 7, 7, 6, []int{6}, 6) // the same whole, other holes
	take(api.Spot{}, at(9, 2), 7, 7, 9, nil)
	h := l.Whole()
	if h.At != at(9, 2) || l.Mark() != at(7, 2) {
		t.Fatal(h)
	}
	l = start(t, 2, 0, 2)
	take(api.Spot{}, api.Spot{}, 2, 0, 0, nil)
	m := shipped(2, true, at(2, 2))
	m.Whole, m.Holes = at(2, 2), []int{1, 2}
	l.Take(m, ops)
	l.Whole().Holes[0] = 99
	if l.Whole().Holes[0] != 1 {
		t.Fatal("what is answered is new memory")
	}
}

func TestTakeNotGood(t *testing.T) { // P18.3
	ops := append(row(1, 0, 4), reign(5, 3, 0), put(6, 3, 0), put(7, 3, 0))
	for _, c := range []struct {
		hint api.Spot
		next int
	}{{at(6, 3), 6}, {at(5, 2), 4}, {at(3, 1), 3}, {api.Spot{}, 0}, {at(80, 16), 7}, {at(80, 2), 4}} {
		l := start(t, 3, 0, 7)
		if l.Take(shipped(3, false, c.hint), ops) != 3 || l.Next() != c.next {
			t.Fatal(c, l.Next())
		}
		if l.Mark() != (api.Spot{}) {
			t.Fatal("no mark")
		}
	}
	l := start(t, 3, 0, 2)
	if l.Take(shipped(3, false, at(6, 3)), ops); l.Next() != 2 {
		t.Fatal("only if this is below next", l.Next())
	}
	l.Take(shipped(3, true, at(5, 3)), ops)
	if l.Take(shipped(3, false, at(2, 1)), ops); l.Next() != 5 || l.Mark() != at(5, 3) {
		t.Fatal("the mark's N, if that is more", l.Next())
	}
	l.Take(shipped(3, true, at(7, 3)), ops[:5])
	if l.Next() != 5 || l.Mark() != at(5, 3) {
		t.Fatal(l.Next())
	}
	m := shipped(3, false, at(2, 1))
	m.Whole = at(2, 1)
	l.Take(m, ops)
	if l.Whole().At != (api.Spot{}) {
		t.Fatal("what isn't Good tells no whole")
	}
}

func TestMeet(t *testing.T) { // P18.4
	mine := append(row(1, 0, 4), reign(5, 3, 1), put(6, 3, 1))
	l := load(t, 5, mine...)
	meet := func(l *ledger.Ledger, m api.Mail, site api.Reach, answer api.Mail, c api.Command, what int) {
		t.Helper()
		a, b, w := lane.Meet(l, m, site)
		if !same(a, answer) || !reflect.DeepEqual(b, c) || w != what {
			t.Fatalf("%+v, %+v, %d", a, b, w)
		}
		if w == lane.Answer && mail.Check(a) != api.OK {
			t.Fatal("an answer that is no mail")
		}
	}
	ship := func(epoch, site int, spot api.Spot, ops ...api.Op) api.Mail {
		return api.Mail{Kind: api.MailShip, Epoch: epoch, Site: site, At: spot, Ops: ops}
	}
	none, noMail := api.Command{}, api.Mail{}
	reach := api.Reach{At: at(6, 3), Holes: []int{2, 6}}
	// nothing
	meet(nil, ship(5, 0, api.Spot{}), reach, noMail, none, lane.Nothing)
	meet(l, api.Mail{Kind: api.MailShipped, Epoch: 5}, reach, noMail, none, lane.Nothing)
	meet(l, ship(0, 0, api.Spot{}), reach, noMail, none, lane.Nothing)
	meet(l, ship(5, 2, api.Spot{}), reach, noMail, none, lane.Nothing)
	meet(l, ship(5, 0, at(0, 1)), reach, noMail, none, lane.Nothing)
	meet(l, ship(3, 0, api.Spot{}), reach, noMail, none, lane.Nothing)
	// an epoch that is over
	meet(l, ship(3, 1, at(6, 3)), reach, shipped(5, false, api.Spot{}), none, lane.Answer)
	meet(l, ship(4, 0, at(80, 4)), reach, shipped(5, false, api.Spot{}), none, lane.Answer)
	// a place that it hasn't
	meet(l, ship(5, 0, at(7, 3)), reach, shipped(5, false, at(6, 3)), none, lane.Answer)
	meet(l, ship(5, 0, at(6, 2)), reach, shipped(5, false, at(4, 1)), none, lane.Answer)
	meet(l, ship(5, 0, at(3, 2), reign(4, 4, 0)), reach, shipped(5, false, at(2, 1)), none, lane.Answer)
	meet(load(t, 5), ship(5, 0, at(3, 2)), reach, shipped(5, false, api.Spot{}), none, lane.Answer)
	// all is there
	good := shipped(5, true, at(4, 1))
	good.Whole, good.Holes = at(6, 3), []int{2, 6}
	meet(l, ship(5, 0, at(4, 1)), reach, good, none, lane.Answer)
	good.At = at(6, 3)
	meet(l, ship(5, 0, at(3, 1), mine[3:]...), reach, good, none, lane.Answer)
	meet(l, ship(5, 0, at(3, 1), mine[3:]...), api.Reach{At: at(6, 2)}, shipped(5, true, at(6, 3)), none, lane.Answer)
	meet(l, ship(5, 0, api.Spot{}), api.Reach{}, shipped(5, true, api.Spot{}), none, lane.Answer)
	for _, bad := range []api.Reach{{At: at(6, 3), Holes: []int{7}}, {At: at(6, 3), Holes: []int{2, 2}}, {Holes: []int{1}}, {At: at(7, 3)}, {At: at(0, 3)}} {
		meet(l, ship(5, 0, at(4, 1)), bad, shipped(5, true, at(4, 1)), none, lane.Answer)
	}
	// what is to be proposed
	cmd := func(epoch, site int, spot api.Spot, ops ...api.Op) api.Command {
		return api.Command{Kind: api.CmdShip, Epoch: epoch, Site: site, After: spot.N, Since: spot.Epoch, Ops: ops}
	}
	meet(l, ship(5, 0, at(6, 3), reign(7, 4, 0)), reach, noMail, cmd(5, 0, at(6, 3), reign(7, 4, 0)), lane.Propose)
	meet(l, ship(5, 0, at(4, 1), reign(5, 4, 0)), reach, noMail, cmd(5, 0, at(4, 1), reign(5, 4, 0)), lane.Propose)
	meet(l, ship(6, 0, at(4, 1)), reach, noMail, cmd(6, 0, at(4, 1)), lane.Propose)
	meet(l, ship(6, 0, at(9, 6)), reach, noMail, cmd(6, 0, at(9, 6)), lane.Propose)
	meet(load(t, 0), ship(1, 0, at(2, 1)), api.Reach{}, noMail, cmd(1, 0, at(2, 1)), lane.Propose)
	in := ship(5, 0, at(1, 1), put(2, 1, 0), put(3, 1, 0), put(4, 1, 0), put(5, 1, 0))
	_, c, _ := lane.Meet(l, in, reach)
	c.Ops[0].Sheet.Hashes[0] = "turned"
	if in.Ops[0].Sheet.Hashes[0] == "turned" {
		t.Fatal("what is answered is new memory")
	}
	a, _, _ := lane.Meet(l, ship(5, 0, at(4, 1)), reach)
	a.Holes[0] = 99
	if reach.Holes[0] != 2 {
		t.Fatal("what is answered is new memory")
	}
	// the holder's site, in the holder's epoch, which is the fence
	l = load(t, 0, mine...)
	meet(l, ship(3, 1, at(6, 3)), api.Reach{}, shipped(3, true, at(6, 3)), none, lane.Answer)
	meet(l, ship(3, 0, at(6, 3)), api.Reach{}, noMail, none, lane.Nothing)
}

func TestExample(t *testing.T) { // P18.2 to P18.4
	ops := row(1, 0, 2)
	l := start(t, 1, 0, 2)
	taker := load(t, 0)
	m := l.Offer(ops)
	if m.At != at(2, 1) || len(m.Ops) != 0 {
		t.Fatal(m)
	}
	_, c, what := lane.Meet(taker, m, api.Reach{})
	if what != lane.Propose {
		t.Fatal(what)
	}
	if d := taker.Apply(c); d.Err != api.ErrGap || taker.Fence() != 1 {
		t.Fatal(d)
	}
	a, _, what := lane.Meet(taker, m, api.Reach{})
	if what != lane.Answer || a.Good || a.At != (api.Spot{}) || l.Take(a, ops) != 1 || l.Next() != 0 {
		t.Fatal(a)
	}
	if m = l.Offer(ops); m.At != (api.Spot{}) || len(m.Ops) != 2 {
		t.Fatal(m)
	}
}

func TestCopyAndNil(t *testing.T) { // P18.5
	ops := row(1, 0, 5)
	l := start(t, 1, 0, 0)
	m := shipped(1, true, at(3, 1))
	m.Whole, m.Holes = at(3, 1), []int{2}
	l.Take(m, ops)
	c := l.Copy()
	if c.Next() != 3 || c.Mark() != at(3, 1) || !reflect.DeepEqual(c.Whole(), l.Whole()) || !same(c.Offer(ops), l.Offer(ops)) {
		t.Fatal("one that knows as much")
	}
	m.At, m.Whole, m.Holes = at(4, 1), at(4, 1), nil
	l.Take(m, ops)
	if c.Next() != 3 || c.Mark() != at(3, 1) || len(c.Whole().Holes) != 1 || l.Next() != 4 {
		t.Fatal("they know nothing of each other")
	}
	var n *lane.Lane
	if !same(n.Offer(ops), api.Mail{}) || n.Take(m, ops) != 0 || n.Next() != 0 || n.Mark() != (api.Spot{}) || n.Whole().At != (api.Spot{}) || n.Copy() != nil {
		t.Fatal("a nil lane")
	}
	if lane.Nothing != 0 || lane.Answer != 1 || lane.Propose != 2 {
		t.Fatal("the numbers of what is to be done")
	}
}

// TestOneAtLast lets two ledgers part, and ship to each other with mails lost, doubled and late.
func TestOneAtLast(t *testing.T) { // P18.6
	for seed := range 300 {
		rnd := rand.New(rand.NewSource(int64(seed)))
		common := row(1, 0, 1+rnd.Intn(20))
		n := len(common)
		theirs := slices.Clone(common)
		for i := range rnd.Intn(15) {
			theirs = append(theirs, put(n+1+i, 1, 0))
		}
		mine := append(slices.Clone(common), reign(n+1, 2, 1))
		for i := range rnd.Intn(15) {
			mine = append(mine, put(n+2+i, 2, 1))
		}
		sender, taker := load(t, 0, mine...), load(t, 0, theirs...)
		l := start(t, 2, 1, len(mine))
		var old []api.Mail
		mark := api.Spot{}
		for range 200 {
			ops := sender.Ops()
			m := l.Offer(ops)
			old = append(old, m)
			if rnd.Intn(3) == 0 {
				m = old[rnd.Intn(len(old))]
			}
			a, c, what := lane.Meet(taker, m, api.Reach{})
			if what == lane.Propose {
				taker.Apply(c)
				a, _, what = lane.Meet(taker, m, api.Reach{})
			}
			if what == lane.Answer && rnd.Intn(4) > 0 {
				l.Take(a, ops)
			}
			if l.Mark().N < mark.N || l.Mark().N > 0 && taker.Ops()[l.Mark().N-1].Epoch != l.Mark().Epoch {
				t.Fatal("a mark that fell, or that the other site hasn't")
			}
			mark = l.Mark()
		}
		if mark != sender.Last() || !reflect.DeepEqual(taker.Ops(), sender.Ops()) || len(taker.Lost()) != len(theirs)-n {
			t.Fatal(seed, mark, len(taker.Ops()), len(mine))
		}
	}
}
