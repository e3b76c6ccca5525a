package world_test

import (
	"math"
	"math/rand"
	"reflect"
	"strings"
	"testing"

	"redoubt/api"
	"redoubt/world"
)

var conf = api.Conf{Quota: 3000, Ops: 30, Epochs: 8, Rate: 50, Burst: 200, Base: 2, Spread: 3, Snap: 5}

func begin(t *testing.T, c api.Conf) *world.World {
	t.Helper()
	w, e := world.New(c)
	if e != api.OK {
		t.Fatal(e)
	}
	return w
}

func do(t *testing.T, w *world.World, a api.Act, want api.Errno) {
	t.Helper()
	if e := w.Do(a); e != want {
		t.Fatalf("%+v answered %d, not %d", a, e, want)
	}
}

// rounds lets time go on, and all letters come.
func rounds(t *testing.T, w *world.World, n int) {
	t.Helper()
	for range n {
		for id := range 6 {
			w.Do(api.Act{Kind: api.ActTick, Node: id, Draw: id})
		}
		for w.Mails() > 0 {
			do(t, w, api.Act{Kind: api.ActDeliver}, api.OK)
		}
	}
}

// leader is the one that leads a site.
func leader(t *testing.T, w *world.World, site int) int {
	t.Helper()
	for id := 3 * site; id < 3*site+3; id++ {
		if w.Leads(id) {
			return id
		}
	}
	t.Fatal("nobody leads")
	return 0
}

func ask(t *testing.T, w *world.World, id int, a api.Ask) int {
	t.Helper()
	n := len(w.Asks())
	do(t, w, api.Act{Kind: api.ActAsk, Node: id, Ask: a}, api.OK)
	if got := w.Asks(); len(got) != n+1 || got[n] != a {
		t.Fatal(got)
	}
	return n
}

func answered(t *testing.T, w *world.World, n int, e api.Errno) api.Reply {
	t.Helper()
	for _, x := range w.Replies() {
		if x.Ask == n {
			if x.Err != e {
				t.Fatalf("%+v", x)
			}
			return x
		}
	}
	t.Fatal("no reply to", n)
	return api.Reply{}
}

// ruled has site 0 as the primary one, and a backup "a" at both.
func ruled(t *testing.T) *world.World {
	t.Helper()
	w := begin(t, conf)
	rounds(t, w, 8)
	ask(t, w, leader(t, w, 0), api.Ask{Kind: api.AskReign})
	rounds(t, w, 4)
	n := ask(t, w, leader(t, w, 0), api.Ask{Kind: api.AskPut, Seq: 1, Name: "a", Data: strings.Repeat("data", 20), Mode: api.ModeSync})
	rounds(t, w, 25)
	answered(t, w, n, api.OK)
	return w
}

func TestNew(t *testing.T) { // P24.1
	bad := conf
	bad.Burst = 63
	if w, e := world.New(bad); w != nil || e != api.ErrArg {
		t.Fatal(e)
	}
	w := begin(t, conf)
	for id := range 7 {
		if !w.Up(id) || w.Leads(id) || w.Waits(id) != 0 || w.Misses(id) != 0 {
			t.Fatal(id)
		}
	}
	if w.Mails() != 0 || w.Lost() != -1 || w.Grant() != (api.Grant{}) || len(w.Replies()) != 0 || len(w.Asks()) != 0 {
		t.Fatal("a new world")
	}
	for range 400 {
		do(t, w, api.Act{Kind: api.ActTick, Node: 0}, api.OK)
	}
	if w.Mails() != 512 {
		t.Fatal(w.Mails())
	}
	do(t, w, api.Act{Kind: api.ActTwin}, api.ErrFull)
	do(t, w, api.Act{Kind: api.ActDrop}, api.OK)
	do(t, w, api.Act{Kind: api.ActTwin, K: 510}, api.OK)
	do(t, w, api.Act{Kind: api.ActTwin, K: 512}, api.ErrNone)
}

func TestExample(t *testing.T) { // P24.2
	w := begin(t, conf)
	do(t, w, api.Act{Kind: api.ActTick}, api.OK)
	if w.Mails() != 2 {
		t.Fatal(w.Mails())
	}
	do(t, w, api.Act{Kind: api.ActTick}, api.OK)
	if w.Mails() != 6 {
		t.Fatal(w.Mails())
	}
	answered(t, w, ask(t, w, 1, api.Ask{Kind: api.AskList}), api.ErrFollower)
	do(t, w, api.Act{Kind: api.ActCrash, Node: 1}, api.OK)
	do(t, w, api.Act{Kind: api.ActTick, Node: 1}, api.ErrDown)
	do(t, w, api.Act{Kind: api.ActStart, Node: 1}, api.OK)
	do(t, w, api.Act{Kind: api.ActStart, Node: 1}, api.ErrThere)
	do(t, w, api.Act{Kind: api.ActLose, K: 1}, api.OK)
	do(t, w, api.Act{Kind: api.ActLose, K: 0}, api.ErrDenied)
}

func TestArguments(t *testing.T) { // P24.2
	w := ruled(t)
	for _, kind := range []int{0, 11, -1, 99, math.MaxInt} {
		do(t, w, api.Act{Kind: kind}, api.ErrArg)
	}
	for _, id := range []int{-1, 7, math.MaxInt, math.MinInt} {
		for _, kind := range []int{api.ActAsk, api.ActTick, api.ActCrash, api.ActStart, api.ActFuse, api.ActFlip} {
			do(t, w, api.Act{Kind: kind, Node: id}, api.ErrArg)
		}
		do(t, w, api.Act{Kind: api.ActLose, K: id}, api.ErrArg)
		if w.Up(id) || w.Ledger(id) != nil || w.Misses(id) != 0 || w.Waits(id) != 0 || w.Leads(id) {
			t.Fatal(id)
		}
	}
	for _, kind := range []int{api.ActAsk, api.ActTick, api.ActFlip} {
		do(t, w, api.Act{Kind: kind, Node: 6}, api.ErrArg)
	}
	for _, kind := range []int{api.ActDeliver, api.ActDrop, api.ActTwin} {
		for _, k := range []int{0, -1, math.MaxInt} {
			do(t, w, api.Act{Kind: kind, K: k}, api.ErrNone)
		}
	}
	do(t, w, api.Act{Kind: api.ActLose, K: 2}, api.ErrArg)
	do(t, w, api.Act{Kind: api.ActStart, Node: 6}, api.ErrThere)
	if len(w.Asks()) != 2 || w.Lost() != -1 {
		t.Fatal("what is refused is nothing")
	}
}

func TestPower(t *testing.T) { // P24.2, P24.3
	w := ruled(t)
	before := w.Ledger(1).Pack()
	do(t, w, api.Act{Kind: api.ActCrash, Node: 1, Keeps: []int{1, 2}}, api.OK)
	if w.Up(1) || w.Ledger(1) != nil || w.Misses(1) != 0 || w.Leads(1) {
		t.Fatal("it is up no more")
	}
	do(t, w, api.Act{Kind: api.ActCrash, Node: 1}, api.OK)
	answered(t, w, ask(t, w, 1, api.Ask{Kind: api.AskList}), api.ErrDown)
	replies := len(w.Replies())
	do(t, w, api.Act{Kind: api.ActTick, Node: 0}, api.OK)
	for w.Mails() > 0 {
		do(t, w, api.Act{Kind: api.ActDeliver}, api.OK) // those for it are lost
	}
	do(t, w, api.Act{Kind: api.ActStart, Node: 1}, api.OK)
	rounds(t, w, 6)
	if !w.Up(1) || w.Ledger(1).Pack() != before || len(w.Replies()) != replies {
		t.Fatal("it is as it was")
	}
	// a fuse
	do(t, w, api.Act{Kind: api.ActFuse, Node: 1, K: 0}, api.OK)
	do(t, w, api.Act{Kind: api.ActFuse, Node: 1, K: -1}, api.OK)
	rounds(t, w, 3)
	lead := leader(t, w, 0)
	do(t, w, api.Act{Kind: api.ActFuse, Node: lead, K: 1}, api.OK)
	n := ask(t, w, lead, api.Ask{Kind: api.AskPut, Seq: 2, Name: "b", Data: "x"})
	if w.Up(lead) {
		t.Fatal("its power is gone")
	}
	for _, x := range w.Replies() {
		if x.Ask == n {
			t.Fatal("it said something")
		}
	}
	do(t, w, api.Act{Kind: api.ActTick, Node: lead}, api.ErrDown)
	do(t, w, api.Act{Kind: api.ActFlip, Node: lead}, api.ErrNone)
	do(t, w, api.Act{Kind: api.ActStart, Node: lead, Keeps: []int{9}}, api.OK)
	if !w.Up(lead) || w.Ledger(lead).Last().N > 2 {
		t.Fatal("it is up again")
	}
	// by a crash there is power again, though the node isn't up
	do(t, w, api.Act{Kind: api.ActFuse, Node: lead, K: 0}, api.OK)
	rounds(t, w, 4)
	if !w.Up(lead) {
		do(t, w, api.Act{Kind: api.ActFlip, Node: lead}, api.ErrNone)
		do(t, w, api.Act{Kind: api.ActCrash, Node: lead}, api.OK)
		do(t, w, api.Act{Kind: api.ActFlip, Node: lead}, api.OK)
		do(t, w, api.Act{Kind: api.ActStart, Node: lead}, api.OK)
	} else {
		t.Fatal("a fuse of no steps")
	}
	rounds(t, w, 8)
	// the witness
	do(t, w, api.Act{Kind: api.ActFuse, Node: 6, K: 0}, api.OK)
	rounds(t, w, 8)
	if w.Grant() != (api.Grant{Epoch: 1, Site: 0}) {
		t.Fatal(w.Grant())
	}
	far := leader(t, w, 1)
	ask(t, w, far, api.Ask{Kind: api.AskReign})
	do(t, w, api.Act{Kind: api.ActTick, Node: far}, api.OK)
	for k := w.Mails(); k > 0; k-- {
		up, before := w.Up(6), w.Mails()
		do(t, w, api.Act{Kind: api.ActDeliver, K: k - 1}, api.OK)
		if up && !w.Up(6) && w.Mails() != before-1 {
			t.Fatal("it says nothing when its power is gone")
		}
	}
	rounds(t, w, 3)
	if w.Up(6) || w.Grant() != (api.Grant{}) {
		t.Fatal("its power is gone", w.Grant())
	}
	do(t, w, api.Act{Kind: api.ActStart, Node: 6}, api.OK)
	if w.Grant() != (api.Grant{Epoch: 1, Site: 0}) {
		t.Fatal(w.Grant())
	}
	rounds(t, w, 12)
	if w.Grant() != (api.Grant{Epoch: 2, Site: 1}) || w.Ledger(0).Fence() != 2 {
		t.Fatal(w.Grant())
	}
	do(t, w, api.Act{Kind: api.ActCrash, Node: 6}, api.OK)
	do(t, w, api.Act{Kind: api.ActStart, Node: 6}, api.OK)
	if w.Grant() != (api.Grant{Epoch: 2, Site: 1}) {
		t.Fatal(w.Grant())
	}
}

func TestLose(t *testing.T) { // P24.2
	w := ruled(t)
	for id := range 6 {
		do(t, w, api.Act{Kind: api.ActTick, Node: id}, api.OK)
	}
	do(t, w, api.Act{Kind: api.ActLose}, api.OK)
	if w.Lost() != 0 {
		t.Fatal(w.Lost())
	}
	twin, _ := w.Copy()
	for twin.Mails() > 0 {
		do(t, twin, api.Act{Kind: api.ActDrop}, api.OK)
	}
	for id := range 6 {
		if w.Up(id) != (id > 2) {
			t.Fatal(id)
		}
		if id < 3 {
			for _, kind := range []int{api.ActCrash, api.ActStart, api.ActFuse, api.ActFlip} {
				do(t, w, api.Act{Kind: kind, Node: id}, api.ErrDenied)
			}
			do(t, w, api.Act{Kind: api.ActTick, Node: id}, api.ErrDown)
			answered(t, w, ask(t, w, id, api.Ask{Kind: api.AskList}), api.ErrDown)
		}
	}
	for _, k := range []int{0, 1} {
		do(t, w, api.Act{Kind: api.ActLose, K: k}, api.ErrDenied)
	}
	do(t, w, api.Act{Kind: api.ActCrash, Node: 6}, api.OK)
	do(t, w, api.Act{Kind: api.ActStart, Node: 6}, api.OK)
	rounds(t, w, 8)
	ask(t, w, leader(t, w, 1), api.Ask{Kind: api.AskReign})
	rounds(t, w, 3)
	n := ask(t, w, leader(t, w, 1), api.Ask{Kind: api.AskRestore, Name: "a"})
	p := ask(t, w, leader(t, w, 1), api.Ask{Kind: api.AskPut, Seq: 2, Name: "b", Data: "new"})
	rounds(t, w, 8)
	if x := answered(t, w, n, api.OK); x.Data != strings.Repeat("data", 20) {
		t.Fatal(x)
	}
	answered(t, w, p, api.OK)
}

func TestLoseLetters(t *testing.T) { // P24.2
	w := begin(t, conf)
	do(t, w, api.Act{Kind: api.ActTick, Node: 0}, api.OK)
	do(t, w, api.Act{Kind: api.ActTick, Node: 3}, api.OK)
	do(t, w, api.Act{Kind: api.ActTick, Node: 4}, api.OK)
	if w.Mails() != 6 {
		t.Fatal(w.Mails())
	}
	do(t, w, api.Act{Kind: api.ActLose, K: 1}, api.OK)
	if w.Mails() != 2 {
		t.Fatal("all letters from and to them are lost", w.Mails())
	}
}

func TestFlip(t *testing.T) { // P24.2
	w := begin(t, conf)
	do(t, w, api.Act{Kind: api.ActFlip}, api.ErrNone)
	w = ruled(t)
	for _, bad := range [][2]int{{-1, 0}, {0, -1}, {math.MinInt, math.MinInt}} {
		do(t, w, api.Act{Kind: api.ActFlip, K: bad[0], Draw: bad[1]}, api.ErrNone)
	}
	if w.Misses(0) != 0 {
		t.Fatal(w.Misses(0))
	}
	do(t, w, api.Act{Kind: api.ActFlip, K: 7, Draw: 100000}, api.OK) // two files: 64 bytes, and 16
	if w.Misses(0) != 1 {
		t.Fatal(w.Misses(0))
	}
	do(t, w, api.Act{Kind: api.ActFlip, K: 1, Draw: 100000}, api.OK) // the same bit again
	if w.Misses(0) != 0 {
		t.Fatal(w.Misses(0))
	}
	for k := range 2 { // the same bit twice: modulo how many there are
		do(t, w, api.Act{Kind: api.ActFlip, K: k, Draw: 3}, api.OK)
		do(t, w, api.Act{Kind: api.ActFlip, K: k + 2, Draw: 3 + 512}, api.OK)
	}
	if w.Misses(0) != 0 {
		t.Fatal(w.Misses(0))
	}
	do(t, w, api.Act{Kind: api.ActFlip, K: 0, Draw: 3}, api.OK)
	do(t, w, api.Act{Kind: api.ActFlip, K: 1, Draw: 3}, api.OK)
	if w.Misses(0) != 2 || w.Misses(1) != 0 {
		t.Fatal(w.Misses(0))
	}
	rounds(t, w, 12)
	if w.Misses(0) != 0 {
		t.Fatal("they are asked for")
	}
	lead := leader(t, w, 0)
	do(t, w, api.Act{Kind: api.ActFlip, Node: lead}, api.OK)
	n := ask(t, w, lead, api.Ask{Kind: api.AskRestore, Name: "a"})
	rounds(t, w, 1)
	answered(t, w, n, api.ErrCorrupt)
	rounds(t, w, 12)
	n = ask(t, w, lead, api.Ask{Kind: api.AskRestore, Name: "a"})
	rounds(t, w, 1)
	answered(t, w, n, api.OK)
	do(t, w, api.Act{Kind: api.ActCrash, Node: 1}, api.OK)
	do(t, w, api.Act{Kind: api.ActFlip, Node: 1}, api.OK)
	do(t, w, api.Act{Kind: api.ActStart, Node: 1}, api.OK)
	if w.Misses(1) != 1 {
		t.Fatal("a file that isn't whole is removed when it begins", w.Misses(1))
	}
}

func TestOwnMemory(t *testing.T) { // P24.3
	w := ruled(t)
	n := ask(t, w, leader(t, w, 0), api.Ask{Kind: api.AskList})
	rounds(t, w, 1)
	answered(t, w, n, api.OK).Names[0] = "turned"
	if answered(t, w, n, api.OK).Names[0] != "a" {
		t.Fatal("what is answered is new memory")
	}
	w.Asks()[0].Kind = 99
	if w.Asks()[0].Kind != api.AskReign {
		t.Fatal("what is answered is new memory")
	}
	w.Ledger(0).Apply(api.Command{Kind: api.CmdReign, Epoch: 9})
	if w.Ledger(0).Fence() != 1 {
		t.Fatal("what is answered is new memory")
	}
}

// look is all that a world tells.
func look(w *world.World) []any {
	out := []any{w.Replies(), w.Asks(), w.Lost(), w.Grant(), w.Mails()}
	for id := range 7 {
		out = append(out, w.Ledger(id).Pack(), w.Misses(id), w.Waits(id), w.Leads(id), w.Up(id))
	}
	return out
}

func randomAct(rnd *rand.Rand) api.Act {
	a := api.Act{Kind: 1 + rnd.Intn(10), Node: rnd.Intn(8) - rnd.Intn(2), K: rnd.Intn(5), Draw: rnd.Intn(9), Keeps: []int{rnd.Intn(90)}}
	if rnd.Intn(3) > 0 {
		a.Kind = []int{api.ActTick, api.ActDeliver}[rnd.Intn(2)]
	}
	if a.Kind == api.ActLose && rnd.Intn(20) > 0 || a.Kind == api.ActFuse && rnd.Intn(2) > 0 {
		a.Kind = api.ActDeliver
	}
	if a.Kind == api.ActAsk {
		a.Ask = api.Ask{Kind: rnd.Intn(8), Client: rnd.Intn(3), Seq: rnd.Intn(30), Name: string([]byte{byte('a' + rnd.Intn(3))}), Data: strings.Repeat("z", rnd.Intn(200)), Mode: rnd.Intn(3), Lag: rnd.Intn(3)}
	}
	return a
}

func TestCopy(t *testing.T) { // P24.4
	for seed := range 15 {
		rnd := rand.New(rand.NewSource(int64(seed)))
		w := begin(t, conf)
		for range 500 {
			w.Do(randomAct(rnd))
		}
		keeps := []int{5}
		w.Do(api.Act{Kind: api.ActCrash, Node: 2, Keeps: keeps})
		keeps[0] = 99
		twin, e := w.Copy()
		if e != api.OK || !reflect.DeepEqual(look(w), look(twin)) {
			t.Fatal(e)
		}
		before := look(w)
		other, _ := w.Copy()
		for range 100 {
			other.Do(randomAct(rnd))
		}
		if !reflect.DeepEqual(before, look(w)) {
			t.Fatal("they know nothing of each other")
		}
		for range 300 {
			a := randomAct(rnd)
			if x, y := w.Do(a), twin.Do(a); x != y {
				t.Fatal(a, x, y)
			}
		}
		if !reflect.DeepEqual(look(w), look(twin)) {
			t.Fatal("one that goes on as it does")
		}
	}
	var n *world.World
	if c, e := n.Copy(); c != nil || e != api.ErrNil {
		t.Fatal(e)
	}
	if n.Do(api.Act{}) != api.ErrNil || n.Replies() != nil || n.Asks() != nil || n.Ledger(0) != nil || n.Misses(0) != 0 || n.Waits(0) != 0 || n.Leads(0) || n.Up(0) || n.Lost() != -1 || n.Grant() != (api.Grant{}) || n.Mails() != 0 {
		t.Fatal("a nil world")
	}
}
