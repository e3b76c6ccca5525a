package calm_test

import (
	"math/rand"
	"slices"
	"strings"
	"testing"

	"redoubt/api"
	"redoubt/calm"
	"redoubt/ledger"
	"redoubt/model"
	"redoubt/world"
)

// court plays acts in a world, and holds all that it tells against the model.
type court struct {
	t        *testing.T
	c        api.Conf
	w        *world.World
	m        *model.Model
	seed     int64
	where    []int             // of each request, at which node it was asked
	judged   int               // how many replies were judged
	answered map[int]api.Reply // by request
	grants   map[int]int       // epochs, and one above the site that has it
	fences   [6]int
	lists    map[[2]int]int           // by site and epoch: up to where a list told of it
	had      [2]map[api.Spot]struct{} // what a site had, ever
	reigned  [2]bool
	waits    bool // something was asked in mode lag or sync
	bytes    int
}

func open(t *testing.T, c api.Conf, seed int64) *court {
	t.Helper()
	w, e := world.New(c)
	if e != api.OK {
		t.Fatal(e)
	}
	return &court{t: t, c: c, w: w, m: model.New(), seed: seed, answered: map[int]api.Reply{}, grants: map[int]int{}, lists: map[[2]int]int{}, had: [2]map[api.Spot]struct{}{{}, {}}}
}

func (k *court) do(a api.Act) api.Errno {
	k.t.Helper()
	if a.Kind == api.ActAsk && a.Node >= 0 && a.Node < 6 {
		k.where = append(k.where, a.Node)
		k.m.Asked(a.Ask)
		k.bytes += len(a.Ask.Data)
		if a.Ask.Kind == api.AskReign {
			k.reigned[a.Node/3] = true
		}
		k.waits = k.waits || a.Ask.Mode > 0
	}
	e := k.w.Do(a)
	k.look()
	return e
}

func (k *court) look() {
	k.t.Helper()
	if g := k.w.Grant(); g.Epoch > 0 {
		if was := k.grants[g.Epoch]; was > 0 && was != g.Site+1 {
			k.t.Fatal(k.seed, "P2: an epoch is granted twice", g)
		}
		k.grants[g.Epoch] = g.Site + 1
	}
	for id := range 6 {
		if l := k.w.Ledger(id); l != nil {
			k.see(id, l)
		}
	}
	all := k.w.Replies()
	for _, x := range all[k.judged:] {
		k.judge(x)
	}
	k.judged = len(all)
}

func (k *court) see(id int, l *ledger.Ledger) {
	k.t.Helper()
	ops := l.Ops()
	if e := k.m.See(ops...); e != api.OK {
		k.t.Fatal(k.seed, "P1: no tree", id, e)
	}
	done := map[[2]int]int{}
	for _, o := range ops {
		if k.grants[o.Epoch] != o.Site+1 {
			k.t.Fatal(k.seed, "P2: an operation of an epoch that its site hasn't", o)
		}
		k.had[id/3][api.Spot{N: o.N, Epoch: o.Epoch}] = struct{}{}
		if o.Kind != api.OpReign {
			if done[[2]int{o.Client, o.Seq}]++; done[[2]int{o.Client, o.Seq}] > 1 {
				k.t.Fatal(k.seed, "P1: done twice", o)
			}
			k.nowhere(o)
		}
	}
}

// nowhere holds an operation against the requests that were refused: of those each has a Seq of its own.
func (k *court) nowhere(o api.Op) {
	k.t.Helper()
	x, ok := k.answered[o.Seq-1]
	if ok && x.Err != api.OK && x.Err != api.ErrUnsure {
		k.t.Fatal(k.seed, "P1: what was refused is there", o, x)
	}
}

func (k *court) judge(x api.Reply) {
	k.t.Helper()
	asks := k.w.Asks()
	if _, twice := k.answered[x.Ask]; twice || x.Ask >= len(asks) {
		k.t.Fatal(k.seed, "P1: answered twice", x)
	}
	k.answered[x.Ask] = x
	a := asks[x.Ask]
	if e := k.m.Judge(a, x); e != api.OK {
		k.t.Fatal(k.seed, "P1: the model says", e, a, x)
	}
	site := k.where[x.Ask] / 3
	if a.Kind == api.AskList && x.Err == api.OK {
		key := [2]int{site, x.At.Epoch}
		if x.At.N < k.lists[key] {
			k.t.Fatal(k.seed, "P1: a list tells of less than before", x)
		}
		k.lists[key] = x.At.N
	}
	if (a.Kind == api.AskPut || a.Kind == api.AskDrop) && x.Err == api.OK {
		k.farEnough(a, x, site)
	}
}

// farEnough holds what was answered OK against how far it is just then.
func (k *court) farEnough(a api.Ask, x api.Reply, site int) {
	k.t.Helper()
	if !k.has(site, x.At) {
		k.t.Fatal(k.seed, "P4: at its site it isn't", x)
	}
	far := x.At
	switch a.Mode {
	case api.ModeAsync:
		return
	case api.ModeLag:
		far.N -= a.Lag
		if far.N < 1 {
			return
		}
		path, _ := k.m.Path(x.At)
		far.Epoch = path[far.N-1].Epoch
	}
	if k.w.Lost() < 0 && !k.has(1-site, far) {
		k.t.Fatal(k.seed, "P3: at the other site it isn't", a, x)
	}
}

// has tells whether a site has an operation: what one of its nodes had once is agreed on there, though one that begins anew does it once more only later.
func (k *court) has(site int, at api.Spot) bool {
	_, ok := k.had[site][at]
	return ok
}

// randomAct is an act that may be lost, late, doubled, and takes power away.
func (k *court) randomAct(rnd *rand.Rand, rough int) api.Act {
	node := rnd.Intn(6)
	switch p := rnd.Intn(100); {
	case p < 8:
		return api.Act{Kind: api.ActAsk, Node: k.whom(rnd), Ask: k.randomAsk(rnd)}
	case p < 8+rough:
		return api.Act{Kind: api.ActDrop, K: rnd.Intn(20)}
	case p < 8+2*rough:
		return api.Act{Kind: api.ActTwin, K: rnd.Intn(20)}
	case p < 8+2*rough+rough/2:
		return api.Act{Kind: api.ActCrash, Node: rnd.Intn(7), Keeps: []int{rnd.Intn(200), rnd.Intn(50)}}
	case p < 8+4*rough:
		return api.Act{Kind: api.ActStart, Node: rnd.Intn(7), Keeps: []int{rnd.Intn(200), rnd.Intn(50)}}
	case p < 8+4*rough+rough/2:
		return api.Act{Kind: api.ActFuse, Node: rnd.Intn(7), K: rnd.Intn(12)}
	case p < 30+4*rough:
		return api.Act{Kind: api.ActTick, Node: node, Draw: rnd.Intn(20) - 5}
	}
	return api.Act{Kind: api.ActDeliver, K: rnd.Intn(1 + min(k.w.Mails(), 30))}
}

// at is a site's leader, or a node of it where none leads.
func (k *court) at(rnd *rand.Rand, site int) int {
	for id := 3 * site; id < 3*site+3; id++ {
		if k.w.Leads(id) {
			return id
		}
	}
	return 3*site + rnd.Intn(3)
}

// whom is a leader, as a rule.
func (k *court) whom(rnd *rand.Rand) int {
	node := rnd.Intn(6)
	for id := range 6 {
		if at := (node + id) % 6; k.w.Leads(at) && rnd.Intn(8) > 0 {
			return at
		}
	}
	return node
}

func (k *court) randomAsk(rnd *rand.Rand) api.Ask {
	name := string([]byte{byte('a' + rnd.Intn(4))})
	n := len(k.where)
	a := api.Ask{Client: rnd.Intn(3), Seq: n + 1, Name: name, Mode: rnd.Intn(3), Lag: rnd.Intn(3)}
	switch p := rnd.Intn(20); {
	case p < 9:
		a.Kind = api.AskPut
		a.Data = strings.Repeat(name+string([]byte{byte(n)}), rnd.Intn(120))
	case p < 12:
		a.Kind = api.AskDrop
	case p < 14:
		a.Kind = api.AskList
	case p < 17:
		a.Kind = api.AskRestore
	case p < 18:
		a.Kind = api.AskLost
	default:
		a.Kind = api.AskReign
	}
	return a
}

// round is one of time, behind which all letters come.
func (k *court) round(rnd *rand.Rand) []api.Act {
	var acts []api.Act
	draws := rnd.Perm(k.c.Spread)
	for i, id := range rnd.Perm(6) {
		_ = i
		acts = append(acts, api.Act{Kind: api.ActTick, Node: id, Draw: draws[id%3] + k.c.Spread*(rnd.Intn(3)-1)})
	}
	return acts
}

// calmDown plays fair acts, and tells how many rounds it took; they are then held against the bound.
func (k *court) calmDown(rnd *rand.Rand, more int) int {
	k.t.Helper()
	start, _ := k.w.Copy()
	var acts []api.Act
	do := func(a api.Act) {
		k.t.Helper()
		acts = append(acts, a)
		if e := k.w.Do(a); e != api.OK {
			k.t.Fatal(k.seed, a, e)
		}
	}
	for id := range 7 {
		do(api.Act{Kind: api.ActFuse, Node: id, K: -1})
		if !k.w.Up(id) {
			do(api.Act{Kind: api.ActStart, Node: id, Keeps: []int{rnd.Intn(99)}})
		}
	}
	bound := calm.Bound(k.c, len(k.where)+16, k.bytes)
	first := -1
	for n := 1; ; n++ {
		for _, a := range k.round(rnd) {
			do(a)
		}
		for k.w.Mails() > 0 {
			do(api.Act{Kind: api.ActDeliver, K: rnd.Intn(k.w.Mails())})
		}
		k.look()
		is := calm.Calm(k.w)
		if is && first < 0 {
			first = n
		}
		if first < 0 && n >= bound {
			for id := range 6 {
				l := k.w.Ledger(id)
				k.t.Log(id, k.w.Leads(id), k.w.Misses(id), k.w.Waits(id), l.Fence(), l.Last(), l.Holder(), l.Settled())
			}
			k.t.Fatal(k.seed, "P5: not calm behind", n, "rounds", k.w.Grant())
		}
		if first > 0 && !is {
			k.t.Fatal(k.seed, "P5: calm no more", n)
		}
		if first > 0 && n >= first+more {
			if got := calm.Fair(k.c, start, acts...); got != n {
				k.t.Fatal(k.seed, "Fair tells", got, "rounds, not", n)
			}
			return first
		}
	}
}

// kept holds the end against what was answered OK.
func (k *court) kept() {
	k.t.Helper()
	asks := k.w.Asks()
	for n, x := range k.answered {
		a := asks[n]
		if x.Err != api.OK || a.Kind != api.AskPut && a.Kind != api.AskDrop {
			continue
		}
		for id := range 6 {
			l := k.w.Ledger(id)
			if l == nil {
				continue
			}
			is := func(o api.Op) bool {
				return o.N == x.At.N && o.Epoch == x.At.Epoch && o.Client == a.Client && o.Seq == a.Seq
			}
			ops, lost := slices.ContainsFunc(l.Ops(), is), slices.ContainsFunc(l.Lost(), is)
			if a.Mode == api.ModeSync && !ops {
				k.t.Fatal(k.seed, "P3: what was answered in mode sync is lost", x)
			}
			if id/3 == k.where[n]/3 && !ops && !lost {
				k.t.Fatal(k.seed, "P4: silently gone", x)
			}
		}
	}
}

func confs() []api.Conf {
	return []api.Conf{
		{Quota: 4000, Ops: 64, Epochs: 16, Rate: 100, Burst: 300, Base: 2, Spread: 3, Snap: 4},
		{Quota: 1000, Ops: 12, Epochs: 5, Rate: 7, Burst: 64, Base: 3, Spread: 4, Snap: 1},
		{Quota: 1 << 16, Ops: 40, Epochs: 9, Rate: 1, Burst: 64, Base: 4, Spread: 7, Snap: 20},
	}
}

// play is a whole story: rough and quieter parts, and calm in between where that is promised.
func play(t *testing.T, seed int64) (rounds int) {
	t.Helper()
	rnd := rand.New(rand.NewSource(seed))
	c := confs()[seed%3]
	k := open(t, c, seed)
	one := rnd.Intn(3) // 0, 1: only that site reigns
	for part := range 3 {
		for range 150 + rnd.Intn(500) {
			a := k.randomAct(rnd, part*2)
			if a.Kind == api.ActAsk {
				if a.Ask.Kind == api.AskReign && one < 2 {
					a.Node = a.Node%3 + 3*one
				}
				if one == 2 && seed%2 == 0 {
					a.Ask.Mode = 0
				}
			}
			k.do(a)
		}
		if !(k.reigned[0] && k.reigned[1] && k.waits) {
			rounds = max(rounds, k.calmDown(rnd, 3))
			k.kept()
		}
	}
	return rounds
}

func TestStories(t *testing.T) { // P27.4, P24.5; P1 to P5
	most := 0
	for seed := range int64(60) {
		most = max(most, play(t, seed))
	}
	t.Log("calm behind at most", most, "rounds")
}

// fair lets time go on at all that are up, and all letters come.
func (k *court) fair(rnd *rand.Rand, n int) {
	k.t.Helper()
	for range n {
		for _, a := range k.round(rnd) {
			k.w.Do(a)
		}
		for k.w.Mails() > 0 {
			k.w.Do(api.Act{Kind: api.ActDeliver, K: rnd.Intn(k.w.Mails())})
		}
		k.look()
	}
}

func (k *court) leader(site int) int {
	k.t.Helper()
	for id := 3 * site; id < 3*site+3; id++ {
		if k.w.Leads(id) {
			return id
		}
	}
	k.t.Fatal(k.seed, "P5: nobody leads")
	return 0
}

// asked asks a leader, and tells what is answered within so many rounds.
func (k *court) asked(rnd *rand.Rand, site int, a api.Ask, rounds int) api.Reply {
	k.t.Helper()
	n := len(k.where)
	k.do(api.Act{Kind: api.ActAsk, Node: k.leader(site), Ask: a})
	for range rounds {
		if x, ok := k.answered[n]; ok {
			return x
		}
		k.fair(rnd, 1)
	}
	x, ok := k.answered[n]
	if !ok {
		k.t.Fatal(k.seed, "P5: a request that waits for ever", a)
	}
	return x
}

// TestLostSite lets the primary site be lost; what was answered in mode sync is restored at the other one.
func TestLostSite(t *testing.T) { // P1, P3, P5
	restored := 0
	for seed := range int64(25) {
		rnd := rand.New(rand.NewSource(seed))
		k := open(t, confs()[0], seed)
		k.fair(rnd, 12)
		k.asked(rnd, 0, api.Ask{Kind: api.AskReign}, 5)
		k.fair(rnd, 5)
		for n := range 600 {
			a := k.randomAct(rnd, 2)
			switch {
			case a.Kind == api.ActAsk && a.Ask.Kind == api.AskReign:
				continue
			case a.Kind == api.ActAsk:
				a.Node = k.at(rnd, 0)
			case a.Kind == api.ActCrash || a.Kind == api.ActFuse:
				a.Node %= 3 // what begins anew at the site that is left would hold no chunks for what it hasn't done
			}
			k.do(a)
			if n%40 == 0 {
				name := string([]byte{'s', byte(n / 40)})
				k.do(api.Act{Kind: api.ActAsk, Node: k.at(rnd, 0), Ask: api.Ask{Kind: api.AskPut, Client: 5, Seq: len(k.where) + 1, Name: name, Data: strings.Repeat(name, rnd.Intn(60)), Mode: api.ModeSync}})
				k.fair(rnd, 3)
			}
		}
		synced := map[int]api.Ask{}
		for n, x := range k.answered {
			if a := k.w.Asks()[n]; x.Err == api.OK && a.Mode == api.ModeSync && (a.Kind == api.AskPut || a.Kind == api.AskDrop) {
				synced[x.At.N] = a
			}
		}
		if e := k.do(api.Act{Kind: api.ActLose}); e != api.OK {
			t.Fatal(e)
		}
		k.do(api.Act{Kind: api.ActStart, Node: 6})
		k.fair(rnd, 40)
		k.asked(rnd, 1, api.Ask{Kind: api.AskReign}, 5)
		k.fair(rnd, 10)
		l := k.w.Ledger(k.leader(1))
		if l.Holder().Site != 1 || l.Holder().Epoch != l.Fence() {
			t.Fatal(seed, "P5: it isn't the primary one", l.Holder())
		}
		for at, a := range synced {
			ops := l.Ops()
			if at > len(ops) || ops[at-1].Seq != a.Seq {
				t.Fatal(seed, "P3: what was answered in mode sync is lost", a)
			}
			last := true
			for _, o := range ops[at:] {
				last = last && o.Name != a.Name
			}
			if a.Kind == api.AskPut && last {
				x := k.asked(rnd, 1, api.Ask{Kind: api.AskRestore, Name: a.Name}, 40)
				if x.Err != api.OK || x.Data != a.Data {
					t.Fatal(seed, "P3: it isn't restored", a, x)
				}
				restored++
			}
		}
		x := k.asked(rnd, 1, api.Ask{Kind: api.AskPut, Client: 7, Seq: len(k.where) + 1, Name: "new", Data: "bytes"}, 40)
		if x.Err != api.OK && len(l.Ops()) < k.c.Ops {
			t.Fatal(seed, "P5: as long as there is room, requests are answered", x)
		}
		k.kept()
	}
	if restored < 20 {
		t.Fatal("hardly anything was restored", restored)
	}
}

// TestTurnedBits lets bits turn: what is restored is what was put, or an error is told.
func TestTurnedBits(t *testing.T) { // P1
	got := map[api.Errno]int{}
	for seed := range int64(20) {
		rnd := rand.New(rand.NewSource(seed))
		k := open(t, confs()[0], seed)
		k.fair(rnd, 12)
		k.asked(rnd, 0, api.Ask{Kind: api.AskReign}, 5)
		for n := range 500 {
			a := k.randomAct(rnd, 1)
			if rnd.Intn(12) == 0 {
				a = api.Act{Kind: api.ActFlip, Node: rnd.Intn(6), K: rnd.Intn(50), Draw: rnd.Intn(600)}
			}
			if a.Kind == api.ActAsk && a.Ask.Kind != api.AskReign {
				a.Node = k.at(rnd, max(0, k.w.Grant().Site))
			}
			k.do(a)
			if n%25 == 0 {
				k.fair(rnd, 3)
			}
		}
		k.do(api.Act{Kind: api.ActLose, K: rnd.Intn(2)})
		for range 200 {
			k.do(k.randomAct(rnd, 1))
		}
		for n, x := range k.answered {
			if k.w.Asks()[n].Kind == api.AskRestore {
				got[x.Err]++
			}
		}
	}
	if got[api.OK] < 10 || got[api.ErrCorrupt] < 3 {
		t.Fatal("hardly anything was restored", got)
	}
}

// TestAllPowerAtOnce takes the power of all seven at one time: what was answered is there.
func TestAllPowerAtOnce(t *testing.T) { // P4
	for seed := range int64(20) {
		rnd := rand.New(rand.NewSource(seed))
		k := open(t, confs()[seed%3], seed)
		k.fair(rnd, 15)
		k.asked(rnd, 0, api.Ask{Kind: api.AskReign}, 5)
		for range 3 {
			for range 200 {
				a := k.randomAct(rnd, 0)
				if a.Ask.Kind == api.AskReign {
					a.Node %= 3
				}
				k.do(a)
			}
			for id := range 7 {
				k.do(api.Act{Kind: api.ActCrash, Node: id, Keeps: []int{rnd.Intn(90)}})
			}
			if k.w.Mails() > 0 && rnd.Intn(2) == 0 {
				k.do(api.Act{Kind: api.ActDrop})
			}
			k.calmDown(rnd, 1)
			k.kept()
		}
	}
}
