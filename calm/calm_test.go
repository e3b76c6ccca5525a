package calm_test

import (
	"math"
	"slices"
	"testing"

	"redoubt/api"
	"redoubt/calm"
	"redoubt/world"
)

var conf = api.Conf{Quota: 3000, Ops: 30, Epochs: 8, Rate: 50, Burst: 200, Base: 2, Spread: 3, Snap: 5}

func begin(t *testing.T, c api.Conf) *world.World {
	t.Helper()
	w, e := world.New(c)
	if e != api.OK {
		t.Fatal(e)
	}
	return w
}

func do(t *testing.T, w *world.World, acts ...api.Act) {
	t.Helper()
	for _, a := range acts {
		if e := w.Do(a); e != api.OK {
			t.Fatalf("%+v: %d", a, e)
		}
	}
}

func tick(node, draw int) api.Act { return api.Act{Kind: api.ActTick, Node: node, Draw: draw} }

func TestBound(t *testing.T) { // P27.1
	c := api.Conf{Quota: 1, Ops: 1, Epochs: 1, Rate: 100, Burst: 64, Base: 2, Spread: 3, Snap: 1}
	slow := c
	slow.Rate = 7
	wide := c
	wide.Base, wide.Spread, wide.Rate = 64, 64, 1
	for i, x := range []struct {
		c        api.Conf
		n, bytes int
		want     int
	}{
		{c, 0, 0, 140}, {c, 1, 0, 140 + 4 + 6*(5+2)}, {c, 0, 1, 140 + 6*(5+2)}, {c, 0, 64, 140 + 6*(5+2)}, {c, 0, 65, 140 + 6*2*(5+2)},
		{c, 4, 0, 140 + 16 + 6*4*(5+2)}, {c, 5, 0, 140 + 20 + 6*5*(10+2)}, {c, 3, 65, 140 + 12 + 6*5*(10+2)}, {slow, 1, 0, 140 + 4 + 6*(5+9+2)}, {wide, 1, 0, 8*128 + 100 + 4 + 6*(5+64+2)},
		{c, 1 << 10, 1 << 20, 140 + 4096 + 6*17408*(5*4352+2)}, {c, -1, 0, 0}, {c, 0, -1, 0}, {c, 1<<10 + 1, 0, 0}, {c, 0, 1<<20 + 1, 0}, {c, math.MaxInt, math.MinInt, 0}, {api.Conf{}, 0, 0, 0},
	} {
		if got := calm.Bound(x.c, x.n, x.bytes); got != x.want {
			t.Fatal(i, got, x.want)
		}
	}
	bad := c
	bad.Snap = 65
	if calm.Bound(bad, 0, 0) != 0 {
		t.Fatal("a configuration that may not be")
	}
}

func fair(t *testing.T, w *world.World, want int, acts ...api.Act) {
	t.Helper()
	mails, up := w.Mails(), w.Up(0)
	if got := calm.Fair(conf, w, acts...); got != want {
		t.Fatal(got, want)
	}
	if w.Mails() != mails || w.Up(0) != up {
		t.Fatal("w is as it was")
	}
}

func TestFair(t *testing.T) { // P27.2
	w := begin(t, conf)
	round := calm.Extend(w, 1)[7:]
	two := calm.Extend(w, 2)[7:]
	fuse := func(id, k int) api.Act { return api.Act{Kind: api.ActFuse, Node: id, K: k} }
	start := func(id int) api.Act { return api.Act{Kind: api.ActStart, Node: id} }
	deliver := api.Act{Kind: api.ActDeliver}
	join := func(lists ...[]api.Act) []api.Act { return slices.Concat(lists...) }
	one := func(list ...api.Act) []api.Act { return list }
	fair(t, w, 0)
	fair(t, w, 1, round...)
	fair(t, w, 2, two...)
	for cut := range two { // the last one may be cut off
		n := 0
		if cut >= len(round) {
			n = 1
		}
		fair(t, w, n, two[:cut]...)
	}
	fair(t, w, 1, join(one(fuse(3, -1), fuse(6, math.MinInt)), round)...)
	fair(t, w, -1, join(one(fuse(3, 0)), round)...)
	fair(t, w, -1, join(one(fuse(7, -1)), round)...)
	fair(t, w, -1, join(round, one(fuse(3, -1)))...)
	fair(t, w, -1, join(round[:1], one(fuse(3, -1)))...)
	fair(t, w, -1, start(3))
	fair(t, w, -1, join(round, one(deliver))...)
	fair(t, w, -1, deliver)
	for _, kind := range []int{api.ActAsk, api.ActDrop, api.ActTwin, api.ActCrash, api.ActLose, api.ActFlip, 0, 11} {
		fair(t, w, -1, api.Act{Kind: kind})
		fair(t, w, -1, join(round, one(api.Act{Kind: kind}))...)
		fair(t, w, -1, join(round[:6], one(api.Act{Kind: kind}), round[6:])...)
	}
	// the ticks of a round
	ticks := func(draws ...int) []api.Act {
		var list []api.Act
		for _, id := range []int{5, 0, 3, 1, 4, 2} {
			list = append(list, tick(id, draws[id]))
		}
		return join(list, round[6:])
	}
	fair(t, w, 1, ticks(0, 1, 2, 0, 1, 2)...)
	fair(t, w, 1, ticks(-1, 0, 1, 7, 6, 5)...)
	fair(t, w, 1, ticks(math.MinInt, math.MinInt+1, math.MinInt+2, 0, 1, -1)...)
	fair(t, w, -1, ticks(0, 1, 3, 0, 1, 2)...)
	fair(t, w, -1, ticks(0, 1, 2, -1, 1, 2)...)
	fair(t, w, -1, ticks(0, 0, 0, 0, 0, 0)...)
	fair(t, w, -1, tick(0, 0), tick(0, 1))
	fair(t, w, -1, tick(6, 0))
	fair(t, w, -1, tick(-1, 0))
	fair(t, w, -1, tick(0, 0), deliver)
	fair(t, w, -1, join(round[:7], one(tick(0, 0)))...) // letters are left
	fair(t, w, 0, tick(0, 9), tick(3, 9), tick(1, 10))
	fair(t, w, -1, join(round, one(tick(0, 0), tick(1, 3)))...)
	// the k-th letter, whichever
	last := round[:6:6]
	for n := len(round) - 6; n > 0; n-- {
		last = append(last, api.Act{Kind: api.ActDeliver, K: n - 1})
	}
	fair(t, w, 1, last...)
	fair(t, w, -1, append(slices.Clone(round[:6]), api.Act{Kind: api.ActDeliver, K: 99})...)
	if calm.Fair(conf, nil) != -1 || calm.Fair(api.Conf{}, w, round...) != -1 {
		t.Fatal("no world, no Spread")
	}
	narrow := conf
	narrow.Spread = 1
	if calm.Fair(narrow, w, tick(0, 5), tick(3, 9)) != 0 || calm.Fair(narrow, w, tick(0, 5), tick(1, 9)) != -1 {
		t.Fatal("modulo one all are the same")
	}
	wide := conf
	wide.Spread = 4
	if calm.Fair(wide, w, ticks(0, 1, 3, 0, 1, 2)...) != 1 || calm.Fair(wide, w, ticks(0, 1, 4, 0, 1, 2)...) != -1 {
		t.Fatal("modulo Spread")
	}
}

func TestFairMends(t *testing.T) { // P27.2
	start := func(id int) api.Act { return api.Act{Kind: api.ActStart, Node: id, Keeps: []int{1}} }
	w := begin(t, conf)
	round := calm.Extend(w, 1)[7:]
	for _, id := range []int{2, 6} {
		do(t, w, api.Act{Kind: api.ActCrash, Node: id})
	}
	fair(t, w, -1)
	fair(t, w, -1, tick(0, 0))
	fair(t, w, -1, start(2))
	fair(t, w, 0, start(6), start(2))
	fair(t, w, -1, start(6), start(2), start(2))
	fair(t, w, 1, append([]api.Act{start(6), {Kind: api.ActFuse, K: -9}, start(2)}, round...)...)
	w = begin(t, conf)
	do(t, w, tick(1, 0)) // letters that are there ahead of a round come in it
	fair(t, w, 0, round...)
	more := calm.Extend(w, 1)[7:]
	fair(t, w, 1, more...)
	fair(t, w, 0, more[:len(more)-1]...)
	do(t, w, api.Act{Kind: api.ActLose})
	fair(t, w, -1)
}

func TestExtend(t *testing.T) { // P27.2
	w := begin(t, conf)
	acts := calm.Extend(w, 1)
	for id := range 7 {
		if a := acts[id]; a.Kind != api.ActFuse || a.Node != id || a.K != -1 {
			t.Fatal(a)
		}
	}
	for id := range 6 {
		if a := acts[7+id]; a.Kind != api.ActTick || a.Node != id || a.Draw != id {
			t.Fatal(a)
		}
	}
	if len(acts) != 7+6+12 {
		t.Fatal(len(acts))
	}
	for _, a := range acts[13:] {
		if a.Kind != api.ActDeliver || a.K != 0 {
			t.Fatal(a)
		}
	}
	if w.Mails() != 0 || len(calm.Extend(w, 0)) != 7 || len(calm.Extend(w, -5)) != 7 || len(calm.Extend(w, math.MinInt)) != 7 || calm.Extend(nil, 3) != nil {
		t.Fatal("w is as it was")
	}
	for _, id := range []int{6, 1, 4} {
		do(t, w, api.Act{Kind: api.ActCrash, Node: id})
	}
	do(t, w, api.Act{Kind: api.ActFuse, Node: 5, K: 0})
	acts = calm.Extend(w, 0)
	if len(acts) != 10 || acts[7].Node != 1 || acts[8].Node != 4 || acts[9].Node != 6 || acts[9].Kind != api.ActStart {
		t.Fatal(acts)
	}
	if w.Up(1) {
		t.Fatal("w is as it was")
	}
	for _, n := range []int{3, 20} {
		if calm.Fair(conf, w, calm.Extend(w, n)...) != n {
			t.Fatal(n)
		}
	}
	ticks := 0
	for _, a := range calm.Extend(w, math.MaxInt) {
		if a.Kind == api.ActTick {
			ticks++
		}
	}
	if ticks != 6*500 {
		t.Fatal("at most 500", ticks)
	}
	do(t, w, api.Act{Kind: api.ActLose})
	if calm.Extend(w, 3) != nil {
		t.Fatal("a site is lost")
	}
}

// quiet is a world that is calm, with a backup.
func quiet(t *testing.T) *world.World {
	t.Helper()
	w := begin(t, conf)
	do(t, w, calm.Extend(w, 12)...)
	lead := 0
	for !w.Leads(lead) {
		lead++
	}
	do(t, w, api.Act{Kind: api.ActAsk, Node: lead, Ask: api.Ask{Kind: api.AskReign}})
	do(t, w, calm.Extend(w, 4)...)
	do(t, w, api.Act{Kind: api.ActAsk, Node: lead, Ask: api.Ask{Kind: api.AskPut, Seq: 1, Name: "a", Data: "data"}})
	do(t, w, calm.Extend(w, 20)...)
	return w
}

func TestCalm(t *testing.T) { // P27.3
	if calm.Calm(nil) || calm.Calm(begin(t, conf)) {
		t.Fatal("nobody leads")
	}
	w := quiet(t)
	if !calm.Calm(w) {
		t.Fatal("it is calm")
	}
	lead, far := 0, 3
	for !w.Leads(lead) {
		lead++
	}
	for !w.Leads(far) {
		far++
	}
	for id := range 7 {
		c, _ := w.Copy()
		do(t, c, api.Act{Kind: api.ActCrash, Node: id})
		if calm.Calm(c) {
			t.Fatal("not all are up", id)
		}
	}
	try := func(why string, acts ...api.Act) {
		t.Helper()
		c, _ := w.Copy()
		do(t, c, acts...)
		for c.Mails() > 0 && why != "letters" {
			do(t, c, api.Act{Kind: api.ActDrop})
		}
		if calm.Calm(c) {
			t.Fatal("not calm:", why)
		}
	}
	try("letters", tick(1, 0))
	try("a site is lost", api.Act{Kind: api.ActLose, K: 0})
	try("a chunk is missed", api.Act{Kind: api.ActFlip, Node: 4})
	try("a request waits", api.Act{Kind: api.ActAsk, Node: lead, Ask: api.Ask{Kind: api.AskList}})
	try("nobody leads", api.Act{Kind: api.ActCrash, Node: lead}, api.Act{Kind: api.ActStart, Node: lead})
	try("nobody leads there", api.Act{Kind: api.ActCrash, Node: far}, api.Act{Kind: api.ActStart, Node: far})
	// one letter
	c, _ := w.Copy()
	do(t, c, tick(1, 0))
	for c.Mails() > 1 {
		do(t, c, api.Act{Kind: api.ActDrop})
	}
	if calm.Calm(c) {
		t.Fatal("a letter is on its way")
	}
	do(t, c, api.Act{Kind: api.ActDrop})
	if !calm.Calm(c) {
		t.Fatal("nothing else is to do")
	}
	// a candidate that nobody votes for
	c, _ = w.Copy()
	other := 3 + (far+1)%3
	for c.Leads(far) {
		do(t, c, tick(other, 0))
		for n := c.Mails(); n > 0; n-- {
			do(t, c, api.Act{Kind: api.ActDeliver}) // what is answered to it is lost
		}
		for c.Mails() > 0 {
			do(t, c, api.Act{Kind: api.ActDrop})
		}
	}
	if calm.Calm(c) {
		t.Fatal("at one site nobody leads")
	}
	// the ledgers, the fence
	c, _ = w.Copy()
	do(t, c, api.Act{Kind: api.ActAsk, Node: far, Ask: api.Ask{Kind: api.AskReign}}, tick(far, 0))
	for c.Mails() > 0 {
		do(t, c, api.Act{Kind: api.ActDeliver})
	}
	if c.Grant().Epoch != 2 || calm.Calm(c) {
		t.Fatal("an epoch that isn't everybody's fence")
	}
	do(t, c, calm.Extend(c, 12)...)
	if !calm.Calm(c) {
		t.Fatal("it is calm again")
	}
	c, _ = w.Copy()
	do(t, c, api.Act{Kind: api.ActAsk, Node: lead, Ask: api.Ask{Kind: api.AskPut, Client: 1, Seq: 1, Name: "e"}})
	for range 3 {
		do(t, c, tick(lead, 0))
		for c.Mails() > 0 {
			do(t, c, api.Act{Kind: api.ActDeliver})
		}
		if c.Waits(lead) == 0 && c.Ledger(far).Last() != c.Ledger(lead).Last() && calm.Calm(c) {
			t.Fatal("ledgers that aren't the same")
		}
	}
}

// TestCalmFollows lets what Extend says follow, whatever was ahead.
func TestCalmFollows(t *testing.T) { // P27.4
	for i, c := range confs() {
		w := begin(t, c)
		acts := calm.Extend(w, min(500, calm.Bound(c, 16, 0)))
		do(t, w, acts...)
		if !calm.Calm(w) {
			t.Fatal(i, "not calm")
		}
		do(t, w, api.Act{Kind: api.ActCrash, Node: i}, api.Act{Kind: api.ActCrash, Node: 6}, tick(5, 1))
		acts = calm.Extend(w, 40)
		if calm.Fair(c, w, acts...) != 40 {
			t.Fatal(i, "Extend's acts are fair")
		}
		do(t, w, acts...)
		if !calm.Calm(w) {
			t.Fatal(i, "not calm")
		}
	}
}
