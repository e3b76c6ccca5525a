package crown_test

import (
	"math"
	"math/rand"
	"reflect"
	"testing"

	"redoubt/api"
	"redoubt/crown"
	"redoubt/ledger"
)

func start(t *testing.T, site, epochs int) *crown.Crown {
	t.Helper()
	c, e := crown.New(site, epochs)
	if e != api.OK || c.Wants() != 0 || c.Heard() != 0 {
		t.Fatal(e)
	}
	return c
}

// load is a ledger that does these commands.
func load(t *testing.T, list ...api.Command) *ledger.Ledger {
	t.Helper()
	l, _ := ledger.New(1000, 64)
	for _, c := range list {
		if d := l.Apply(c); d.Err != api.OK {
			t.Fatal(d)
		}
	}
	return l
}

func reign(epoch, site int) api.Command {
	return api.Command{Kind: api.CmdReign, Epoch: epoch, Site: site}
}

func fenced(epoch int) api.Command { return api.Command{Kind: api.CmdShip, Epoch: epoch} }

func grant(epoch, site int) api.Mail {
	return api.Mail{Kind: api.MailGrant, Epoch: epoch, Site: site}
}

func want(t *testing.T, c *crown.Crown, fence int, e api.Errno, n int) {
	t.Helper()
	if got := c.Want(fence); got != e || c.Wants() != n {
		t.Fatal(got, c.Wants())
	}
}

func TestNew(t *testing.T) { // P21.1
	for _, bad := range [][2]int{{-1, 1}, {2, 1}, {0, 0}, {0, 17}, {math.MaxInt, math.MinInt}} {
		if c, e := crown.New(bad[0], bad[1]); c != nil || e != api.ErrArg {
			t.Fatal(bad, e)
		}
	}
	start(t, 0, 1)
	start(t, 1, 16)
}

func TestWant(t *testing.T) { // P21.2
	c := start(t, 1, 5)
	if m := c.Tick(); !reflect.DeepEqual(m, api.Mail{Kind: api.MailClaim, Site: 1}) {
		t.Fatal(m)
	}
	want(t, c, -1, api.ErrSaturated, 0)
	want(t, c, math.MinInt, api.ErrSaturated, 0)
	want(t, c, 5, api.ErrSaturated, 0)
	want(t, c, math.MaxInt, api.ErrSaturated, 0)
	want(t, c, 2, api.OK, 3)
	if m := c.Tick(); !reflect.DeepEqual(m, api.Mail{Kind: api.MailClaim, Epoch: 3, Site: 1}) {
		t.Fatal(m)
	}
	want(t, c, 4, api.OK, 3)
	want(t, c, -7, api.OK, 3)
	c.Rest()
	if c.Wants() != 0 {
		t.Fatal(c.Wants())
	}
	want(t, c, 4, api.OK, 5)
	c.Rest()
	c.Hear(3)
	want(t, c, 0, api.OK, 4)
	c.Rest()
	want(t, c, -1, api.ErrSaturated, 0)
	c.Hear(5)
	want(t, c, 0, api.ErrSaturated, 0)
	d := start(t, 0, 5)
	d.Take(grant(2, 1))
	want(t, d, 1, api.OK, 3)
}

func TestTake(t *testing.T) { // P21.3
	c := start(t, 0, 9)
	for _, m := range []api.Mail{{}, {Kind: api.MailClaim, Epoch: 1}, grant(17, 0), grant(-1, 0), grant(1, 2), grant(0, 1), {Kind: api.MailGrant, Epoch: 1, Term: 1}} {
		if c.Take(m) || c.Heard() != 0 {
			t.Fatal(m)
		}
	}
	if !c.Take(grant(0, 0)) {
		t.Fatal("none was granted yet")
	}
	want(t, c, 2, api.OK, 3)
	if !c.Take(grant(2, 1)) || c.Wants() != 3 || c.Heard() != 2 {
		t.Fatal(c.Wants(), c.Heard())
	}
	if c.Take(grant(1, 0)) || c.Heard() != 2 {
		t.Fatal("below what it was told")
	}
	if !c.Take(grant(2, 1)) || !c.Take(grant(3, 1)) || c.Wants() != 0 || c.Heard() != 3 {
		t.Fatal(c.Wants(), c.Heard())
	}
	c.Hear(8)
	c.Hear(5)
	c.Hear(17)
	c.Hear(math.MaxInt)
	c.Hear(-3)
	if c.Heard() != 8 {
		t.Fatal(c.Heard())
	}
	if !c.Take(grant(4, 0)) || c.Heard() != 8 {
		t.Fatal("what it heard of doesn't fall")
	}
	c.Hear(16)
	if c.Heard() != 16 {
		t.Fatal(c.Heard())
	}
	want(t, c, 0, api.ErrSaturated, 0)
	d := start(t, 0, 9)
	want(t, d, 0, api.OK, 1)
	if !d.Take(grant(5, 1)) || d.Wants() != 0 {
		t.Fatal(d.Wants())
	}
}

func next(t *testing.T, c *crown.Crown, l *ledger.Ledger, cmd api.Command, ok bool) {
	t.Helper()
	if got, is := c.Next(l); is != ok || !reflect.DeepEqual(got, cmd) {
		t.Fatal(got, is)
	}
}

func TestNext(t *testing.T) { // P21.4
	c := start(t, 1, 9)
	next(t, c, load(t), api.Command{}, false)
	c.Take(grant(2, 1))
	next(t, c, load(t), reign(2, 1), true)
	next(t, c, load(t, reign(1, 0)), reign(2, 1), true)
	next(t, c, load(t, reign(2, 1)), api.Command{}, false)
	next(t, c, load(t, fenced(2)), api.Command{}, false)
	next(t, c, load(t, fenced(3)), api.Command{}, false)
	c.Take(grant(3, 0))
	next(t, c, load(t), api.Command{}, false)
	c.Hear(9)
	c.Take(grant(7, 1))
	next(t, c, load(t, fenced(3)), reign(7, 1), true)
}

func primary(t *testing.T, c *crown.Crown, l *ledger.Ledger, e api.Errno) {
	t.Helper()
	if got := c.Primary(l); got != e {
		t.Fatal(got)
	}
}

func TestPrimary(t *testing.T) { // P21.5
	c := start(t, 1, 3)
	primary(t, c, nil, api.ErrPrimary)
	primary(t, c, load(t), api.ErrPrimary)
	primary(t, c, load(t, fenced(1)), api.ErrPrimary)
	primary(t, c, load(t, reign(1, 0)), api.ErrPrimary)
	primary(t, c, load(t, reign(1, 1)), api.OK)
	primary(t, c, load(t, reign(1, 1), fenced(2)), api.ErrPrimary)
	primary(t, c, load(t, reign(1, 0), reign(2, 1)), api.OK)
	primary(t, c, load(t, reign(1, 1), reign(2, 0)), api.ErrPrimary)
	c.Hear(1)
	primary(t, c, load(t, reign(1, 1)), api.OK)
	c.Hear(2)
	primary(t, c, load(t, reign(1, 1)), api.ErrStale)
	primary(t, c, load(t, reign(1, 0)), api.ErrPrimary)
	primary(t, c, load(t, reign(2, 1)), api.OK)
	d := start(t, 1, 3)
	want(t, d, 0, api.OK, 1)
	d.Take(grant(1, 1))
	l := load(t)
	next(t, d, l, reign(1, 1), true)
	l.Apply(reign(1, 1))
	primary(t, d, l, api.OK)
	d.Hear(2)
	primary(t, d, l, api.ErrStale)
	primary(t, start(t, 0, 1), nil, api.ErrPrimary)
}

func TestCopyAndNil(t *testing.T) { // P21.6
	c := start(t, 0, 9)
	c.Take(grant(2, 0))
	c.Hear(3)
	c.Want(1)
	d := c.Copy()
	if d.Wants() != 4 || d.Heard() != 3 || d.Take(grant(1, 0)) {
		t.Fatal("one that knows as much")
	}
	next(t, d, load(t), reign(2, 0), true)
	c.Rest()
	c.Hear(9)
	c.Take(grant(5, 1))
	if d.Wants() != 4 || d.Heard() != 3 {
		t.Fatal("they know nothing of each other")
	}
	next(t, d, load(t), reign(2, 0), true)
	var n *crown.Crown
	n.Rest()
	n.Hear(3)
	want(t, n, -1, api.ErrNil, 0)
	primary(t, n, nil, api.ErrNil)
	next(t, n, load(t), api.Command{}, false)
	if !reflect.DeepEqual(n.Tick(), api.Mail{}) || n.Take(grant(1, 0)) || n.Heard() != 0 || n.Copy() != nil {
		t.Fatal("a nil crown")
	}
}

// TestOneEpochOneSite lets two crowns ask one witness, whose word may come late or twice.
func TestOneEpochOneSite(t *testing.T) { // P21.7
	for seed := range 300 {
		rnd := rand.New(rand.NewSource(int64(seed)))
		crowns := [2]*crown.Crown{start(t, 0, 16), start(t, 1, 16)}
		ledgers := [2]*ledger.Ledger{load(t), load(t)}
		given := api.Grant{}
		began := map[int]int{}
		var said []api.Mail
		for range 200 {
			s := rnd.Intn(2)
			switch rnd.Intn(6) {
			case 0:
				crowns[s].Want(ledgers[s].Fence())
			case 1:
				if m := crowns[s].Tick(); m.Epoch == given.Epoch+1 {
					given = api.Grant{Epoch: m.Epoch, Site: m.Site}
				}
				said = append(said, grant(given.Epoch, given.Site))
			case 2, 3:
				if len(said) > 0 {
					crowns[s].Take(said[rnd.Intn(len(said))])
				}
			case 4:
				if c, ok := crowns[s].Next(ledgers[s]); ok {
					if ledgers[s].Apply(c).Err == api.OK {
						if _, was := began[c.Epoch]; was || c.Site != s {
							t.Fatal("an epoch that begins twice")
						}
						began[c.Epoch] = s
					}
				}
			case 5:
				ops := ledgers[s].Ops()
				if h := ledgers[s].Holder(); h.Epoch == ledgers[s].Fence() && h.Epoch > 0 && h.Site == s {
					ledgers[1-s].Apply(api.Command{Kind: api.CmdShip, Epoch: h.Epoch, Site: s, Ops: ops[:min(8, len(ops))]})
				}
			}
			a, b := ledgers[0], ledgers[1]
			if a.Fence() == b.Fence() && crowns[0].Primary(a) != api.ErrPrimary && crowns[1].Primary(b) != api.ErrPrimary {
				t.Fatal("both have the same epoch as their own")
			}
		}
	}
}
