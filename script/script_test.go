package script_test

import (
	"math"
	"math/rand"
	"reflect"
	"slices"
	"strings"
	"testing"

	"redoubt/api"
	"redoubt/script"
	"redoubt/world"
)

var conf = api.Conf{Quota: 3000, Ops: 30, Epochs: 8, Rate: 50, Burst: 200, Base: 2, Spread: 3, Snap: 5}

func norm(acts []api.Act) []api.Act {
	var out []api.Act
	for _, a := range acts {
		if len(a.Keeps) == 0 {
			a.Keeps = nil
		}
		out = append(out, a)
	}
	return out
}

func same(a, b []api.Act) bool { return reflect.DeepEqual(norm(a), norm(b)) }

func reads(t *testing.T, s string, want ...api.Act) {
	t.Helper()
	if got := script.Read(s); !same(got, want) {
		t.Fatalf("%x: %+v", s, got)
	}
}

func ticks() []api.Act {
	var list []api.Act
	for id := range 6 {
		list = append(list, api.Act{Kind: api.ActTick, Node: id, Draw: id})
	}
	return list
}

var full = api.Act{Kind: api.ActAsk, Node: 3, Ask: api.Ask{Kind: 1, Client: 2, Seq: 250, Mode: 4, Lag: 5, Name: "ab", Data: strings.Repeat("d", 258)}}

const fullBytes = "\x01\x03\x01\x02\xfa\x04\x05\x02ab\x02\x01"

// rows are acts, and their bytes.
func rows() map[string]api.Act {
	return map[string]api.Act{
		fullBytes + full.Ask.Data:                  full,
		"\x01\xff\x00\x00\x00\x00\x00\x00\x00\x00": {Kind: api.ActAsk, Node: 255},
		"\x02\x07":             {Kind: api.ActDeliver, K: 7},
		"\x03\xff":             {Kind: api.ActDrop, K: 255},
		"\x04\x00":             {Kind: api.ActTwin},
		"\x05\x03\x07":         {Kind: api.ActTick, Node: 3, Draw: 7},
		"\x06\x01\x02\x09\xff": {Kind: api.ActCrash, Node: 1, Keeps: []int{9, 255}},
		"\x06\x01\x00":         {Kind: api.ActCrash, Node: 1},
		"\x07\x06\x07\x01\x02\x03\x04\x05\x06\x07": {Kind: api.ActStart, Node: 6, Keeps: []int{1, 2, 3, 4, 5, 6, 7}},
		"\x08\x04\x0c":         {Kind: api.ActFuse, Node: 4, K: 12},
		"\x09\x01":             {Kind: api.ActLose, K: 1},
		"\x0a\x02\x03\x04\x05": {Kind: api.ActFlip, Node: 2, K: 3, Draw: 0x0504},
		"\x0a\xff\xff\xff\xff": {Kind: api.ActFlip, Node: 255, K: 255, Draw: 65535},
	}
}

func TestRead(t *testing.T) { // P25.1
	reads(t, "")
	reads(t, "\x00\x0d\x0e\x0f\x10\xfd")
	reads(t, "\x0b", ticks()...)
	reads(t, "\x02\x00\x09", api.Act{Kind: api.ActDeliver})
	reads(t, "\x0c\x03", slices.Repeat([]api.Act{{Kind: api.ActDeliver}}, 3)...)
	reads(t, "\x0c\x00")
	reads(t, "\x0c")
	tick := api.Act{Kind: api.ActTick, Node: 9, Draw: 1}
	for s, a := range rows() {
		reads(t, s, a)
		high := string([]byte{s[0] + 16*5}) + s[1:]
		reads(t, high, a)
		reads(t, "\x05\x09\x01"+s+"\x0f\x05\x09\x01", tick, a, tick)
		for cut := range s {
			reads(t, "\x05\x09\x01"+s[:cut], tick)
		}
	}
	reads(t, "\x06\x01\x0a\x09\xff", api.Act{Kind: api.ActCrash, Node: 1, Keeps: []int{9, 255}}) // 10 modulo 8
	name := "\x01\x00\x03\x00\x00\x00\x00\x41n\x00\x00"                                          // 65 modulo 32
	reads(t, name, api.Act{Kind: api.ActAsk, Ask: api.Ask{Kind: 3, Name: "n"}})
	data := "\x01\x00\x03\x00\x00\x00\x00\x00\x01\x04d" // 1025 modulo 1024
	reads(t, data, api.Act{Kind: api.ActAsk, Ask: api.Ask{Kind: 3, Data: "d"}})
}

func TestReadLimits(t *testing.T) { // P25.1
	if n := len(script.Read(strings.Repeat("\x02\x01", 4001))); n != 4000 {
		t.Fatal(n)
	}
	if n := len(script.Read(strings.Repeat("\x02\x01", 3999))); n != 3999 {
		t.Fatal(n)
	}
	got := script.Read(strings.Repeat("\x0b", 700))
	if len(got) != 4000 || !same(got[3999:], ticks()[3:4]) {
		t.Fatal(len(got))
	}
	if got := script.Read("\x0b" + strings.Repeat("\x0c\xff", 20)); len(got) != 4000 || got[3999].Kind != api.ActDeliver {
		t.Fatal(len(got))
	}
	if n := len(script.Read(strings.Repeat("\x00", 1<<14-2) + "\x02\x01\x02\x01")); n != 1 {
		t.Fatal("the first 2^14 bytes count", n)
	}
	if n := len(script.Read(strings.Repeat("\x00", 1<<14-1) + "\x02\x01")); n != 0 {
		t.Fatal("the first 2^14 bytes count", n)
	}
}

func TestPrint(t *testing.T) { // P25.2
	prints := func(want string, e api.Errno, acts ...api.Act) {
		t.Helper()
		if s, err := script.Print(acts...); s != want || err != e {
			t.Fatalf("%.60x %d", s, err)
		}
	}
	prints("", api.OK)
	long := api.Act{Kind: api.ActAsk, Ask: api.Ask{Name: strings.Repeat("n", 31), Data: strings.Repeat("d", 1023)}}
	prints("\x01\x00\x00\x00\x00\x00\x00\x1f"+long.Ask.Name+"\xff\x03"+long.Ask.Data, api.OK, long)
	for s, a := range rows() {
		prints(s, api.OK, a)
		prints("\x02\x01"+s+s, api.OK, api.Act{Kind: api.ActDeliver, K: 1}, a, a)
		for k, bad := range turned(a) {
			if got, e := script.Print(a, bad); got != "" || e != api.ErrArg {
				t.Fatalf("%d: %+v", k, bad)
			}
		}
	}
	for _, kind := range []int{0, 11, 12, 13, 16, 17, -1, 257, math.MaxInt} {
		prints("", api.ErrArg, api.Act{Kind: kind})
	}
	many := slices.Repeat([]api.Act{{Kind: api.ActDeliver}}, 4000)
	prints(strings.Repeat("\x02\x00", 4000), api.OK, many...)
	prints("", api.ErrArg, append(many, many[0])...)
	prints("", api.ErrLong, slices.Repeat([]api.Act{long}, 16)...)
	prints("", api.ErrArg, append(slices.Repeat([]api.Act{long}, 16), api.Act{})...)
	fit := slices.Repeat([]api.Act{{Kind: api.ActFlip}}, 3276) // 16380 bytes
	prints(strings.Repeat("\x0a\x00\x00\x00\x00", 3276)+"\x02\x00\x02\x00", api.OK, append(fit, many[:2]...)...)
	prints("", api.ErrLong, append(fit, many[:3]...)...)
}

// turned are acts that can't be written, each for one reason.
func turned(a api.Act) []api.Act {
	var list []api.Act
	turn := func(f func(a *api.Act)) {
		x := a
		x.Keeps = slices.Clone(a.Keeps)
		f(&x)
		list = append(list, x)
	}
	named := map[int]string{api.ActAsk: "na", api.ActDeliver: "k", api.ActDrop: "k", api.ActTwin: "k", api.ActTick: "nd", api.ActCrash: "ns", api.ActStart: "ns", api.ActFuse: "nk", api.ActLose: "k", api.ActFlip: "nkp"}[a.Kind]
	numbers := map[string]func(a *api.Act) *int{"n": func(a *api.Act) *int { return &a.Node }, "k": func(a *api.Act) *int { return &a.K }, "d": func(a *api.Act) *int { return &a.Draw }}
	for name, field := range numbers {
		if strings.Contains(named, name) {
			turn(func(a *api.Act) { *field(a) = 256 })
			turn(func(a *api.Act) { *field(a) = -1 })
			turn(func(a *api.Act) { *field(a) = math.MaxInt })
		} else if name != "d" || !strings.Contains(named, "p") {
			turn(func(a *api.Act) { *field(a) = 1 })
			turn(func(a *api.Act) { *field(a) = -1 })
		} else {
			turn(func(a *api.Act) { a.Draw = 65536 })
			turn(func(a *api.Act) { a.Draw = -1 })
		}
	}
	if strings.Contains(named, "s") {
		turn(func(a *api.Act) { a.Keeps = make([]int, 8) })
		turn(func(a *api.Act) { a.Keeps = make([]int, 256) })
		turn(func(a *api.Act) { a.Keeps = []int{256} })
		turn(func(a *api.Act) { a.Keeps = []int{1, -1} })
	} else {
		turn(func(a *api.Act) { a.Keeps = []int{0} })
	}
	asks := []func(x *api.Ask) *int{func(x *api.Ask) *int { return &x.Kind }, func(x *api.Ask) *int { return &x.Client }, func(x *api.Ask) *int { return &x.Seq }, func(x *api.Ask) *int { return &x.Mode }, func(x *api.Ask) *int { return &x.Lag }}
	for _, field := range asks {
		if strings.Contains(named, "a") {
			turn(func(a *api.Act) { *field(&a.Ask) = 256 })
			turn(func(a *api.Act) { *field(&a.Ask) = -1 })
		} else {
			turn(func(a *api.Act) { *field(&a.Ask) = 1 })
		}
	}
	name, data := 32, 1024
	if !strings.Contains(named, "a") {
		name, data = 1, 1
	}
	turn(func(a *api.Act) { a.Ask.Name = strings.Repeat("n", name) })
	turn(func(a *api.Act) { a.Ask.Name = strings.Repeat("n", 256*name) })
	turn(func(a *api.Act) { a.Ask.Data = strings.Repeat("d", data) })
	return list
}

func TestThereAndBack(t *testing.T) { // P25.4
	var all []api.Act
	for _, a := range rows() {
		all = append(all, a)
	}
	s, _ := script.Print(all...)
	reads(t, s, all...)
	for cut := range s {
		got := script.Read(s[:cut])
		if !same(got, all[:len(got)]) {
			t.Fatal("the first ones", cut)
		}
	}
	rnd := rand.New(rand.NewSource(3))
	for range 100 {
		b := make([]byte, rnd.Intn(300))
		rnd.Read(b)
		acts := script.Read(string(b))
		s, e := script.Print(acts...)
		if e == api.OK && !same(script.Read(s), acts) || e != api.OK && e != api.ErrLong {
			t.Fatal(e)
		}
		for cut := range b {
			got := script.Read(string(b[:cut]))
			if !same(got, acts[:len(got)]) {
				t.Fatal("of bytes that are cut off")
			}
		}
	}
}

func TestPlay(t *testing.T) { // P25.3
	bad := conf
	bad.Base = 1
	if w, e := script.Play(bad, "\x0b"); w != nil || e != api.ErrArg {
		t.Fatal(e)
	}
	rnd := rand.New(rand.NewSource(5))
	for range 20 {
		b := make([]byte, rnd.Intn(3000))
		rnd.Read(b)
		s := string(b)
		w, e := script.Play(conf, s)
		if e != api.OK {
			t.Fatal(e)
		}
		again, _ := world.New(conf)
		for _, a := range script.Read(s) {
			again.Do(a)
		}
		if !reflect.DeepEqual(w.Replies(), again.Replies()) || w.Mails() != again.Mails() || w.Lost() != again.Lost() || !slices.Equal(w.Asks(), again.Asks()) {
			t.Fatal("the world behind all acts")
		}
		for id := range 7 {
			if w.Up(id) != again.Up(id) || w.Ledger(id).Pack() != again.Ledger(id).Pack() {
				t.Fatal(id)
			}
		}
	}
	w, _ := script.Play(conf, strings.Repeat("\x0b\x0c\xff", 6))
	if !w.Leads(0) && !w.Leads(1) && !w.Leads(2) {
		t.Fatal("one leads")
	}
}
