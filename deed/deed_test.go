package deed_test

import (
	"math"
	"reflect"
	"strings"
	"testing"

	"redoubt/api"
	"redoubt/deed"
	"redoubt/pack"
	"redoubt/sheet"
)

func sheetOf(data string) api.Sheet {
	s, e := sheet.Make(data)
	if e != api.OK {
		panic(e)
	}
	return s
}

func put(n, epoch, site int) api.Op {
	return api.Op{N: n, Epoch: epoch, Kind: api.OpPut, Site: site, Client: 7, Seq: 1 << 40, Name: strings.Repeat("n", 16), Sheet: sheetOf(strings.Repeat("data ", 30))}
}

func drop(n, epoch, site int) api.Op {
	return api.Op{N: n, Epoch: epoch, Kind: api.OpDrop, Site: site, Client: 0, Seq: 1, Name: "\x00"}
}

func reign(n, epoch, site int) api.Op {
	return api.Op{N: n, Epoch: epoch, Kind: api.OpReign, Site: site}
}

func with(o api.Op, turn func(*api.Op)) api.Op {
	turn(&o)
	return o
}

// wrongOps are operations that aren't right, each for one reason.
func wrongOps() []api.Op {
	list := []api.Op{{}, {N: 1, Epoch: 1, Kind: 0}, {N: 1, Epoch: 1, Kind: 4, Client: 1, Seq: 1, Name: "x"}, {N: 1, Epoch: 1, Kind: -1}}
	for _, o := range []api.Op{put(3, 2, 1), drop(3, 2, 1), reign(3, 2, 1)} {
		for _, turn := range []func(*api.Op){
			func(o *api.Op) { o.N = 0 }, func(o *api.Op) { o.N = 81 }, func(o *api.Op) { o.N = math.MinInt },
			func(o *api.Op) { o.Epoch = 0 }, func(o *api.Op) { o.Epoch = 17 }, func(o *api.Op) { o.Epoch = -1 },
			func(o *api.Op) { o.Site = 2 }, func(o *api.Op) { o.Site = -1 },
			func(o *api.Op) { o.Client = 8 }, func(o *api.Op) { o.Client = -1 },
			func(o *api.Op) { o.Seq = 1<<40 + 1 }, func(o *api.Op) { o.Seq = -1 },
			func(o *api.Op) { o.Name = strings.Repeat("n", 17) },
			func(o *api.Op) { o.Sheet = api.Sheet{Size: 1} }, func(o *api.Op) { o.Sheet = api.Sheet{Hashes: []string{"h"}} },
		} {
			list = append(list, with(o, turn))
		}
	}
	for _, o := range []api.Op{put(3, 2, 1), drop(3, 2, 1)} {
		list = append(list, with(o, func(o *api.Op) { o.Seq = 0 }), with(o, func(o *api.Op) { o.Name = "" }))
	}
	r := reign(3, 2, 1)
	return append(list, with(drop(3, 2, 1), func(o *api.Op) { o.Sheet = sheetOf("x") }), with(r, func(o *api.Op) { o.Client = 1 }), with(r, func(o *api.Op) { o.Seq = 1 }), with(r, func(o *api.Op) { o.Name = "x" }), with(r, func(o *api.Op) { o.Sheet = sheetOf("x") }))
}

func TestCheckOp(t *testing.T) { // P11.1
	for _, o := range []api.Op{put(1, 1, 0), put(80, 16, 1), drop(80, 16, 0), reign(1, 1, 1), reign(80, 16, 0), with(put(1, 1, 0), func(o *api.Op) { o.Sheet = api.Sheet{} }), with(drop(1, 1, 1), func(o *api.Op) { o.Sheet.Hashes = []string{} })} {
		if deed.CheckOp(o) != api.OK {
			t.Fatal(o)
		}
	}
	for i, o := range wrongOps() {
		if deed.CheckOp(o) != api.ErrForm {
			t.Fatal(i, o)
		}
	}
}

func TestRow(t *testing.T) { // P11.1
	type row struct {
		after api.Spot
		ops   []api.Op
		may   bool
	}
	for i, r := range []row{
		{api.Spot{}, nil, true}, {api.Spot{N: 80, Epoch: 16}, nil, true}, {api.Spot{N: 1, Epoch: 1}, nil, true},
		{api.Spot{N: 0, Epoch: 1}, nil, false}, {api.Spot{N: 1, Epoch: 0}, nil, false}, {api.Spot{N: 81, Epoch: 1}, nil, false}, {api.Spot{N: 1, Epoch: 17}, nil, false}, {api.Spot{N: -1, Epoch: -1}, nil, false}, {api.Spot{N: math.MaxInt, Epoch: 1}, nil, false}, {api.Spot{N: 1, Epoch: -1}, nil, false}, {api.Spot{N: -1, Epoch: 1}, nil, false},
		{api.Spot{}, []api.Op{put(1, 1, 0)}, false}, {api.Spot{}, []api.Op{reign(1, 1, 0), put(2, 1, 0)}, true},
		{api.Spot{}, []api.Op{reign(1, 3, 0), drop(2, 3, 0), reign(3, 5, 1), put(4, 5, 1), put(5, 5, 1)}, true},
		{api.Spot{}, []api.Op{reign(1, 3, 0), drop(2, 3, 1)}, false}, {api.Spot{}, []api.Op{reign(1, 3, 0), reign(2, 3, 0)}, false},
		{api.Spot{}, []api.Op{reign(1, 3, 0), reign(2, 2, 0)}, false}, {api.Spot{}, []api.Op{reign(1, 3, 0), put(2, 4, 0)}, false}, {api.Spot{}, []api.Op{reign(1, 3, 0), put(2, 2, 0)}, false},
		{api.Spot{}, []api.Op{reign(2, 1, 0)}, false}, {api.Spot{}, []api.Op{reign(1, 1, 0), put(3, 1, 0)}, false}, {api.Spot{}, []api.Op{reign(1, 1, 0), put(1, 1, 0)}, false},
		{api.Spot{N: 4, Epoch: 2}, []api.Op{put(5, 2, 0)}, true}, {api.Spot{N: 4, Epoch: 2}, []api.Op{put(5, 2, 1), put(6, 2, 1)}, true}, {api.Spot{N: 4, Epoch: 2}, []api.Op{put(5, 2, 1), put(6, 2, 0)}, false},
		{api.Spot{N: 4, Epoch: 2}, []api.Op{put(5, 1, 0)}, false}, {api.Spot{N: 4, Epoch: 2}, []api.Op{reign(5, 2, 0)}, false}, {api.Spot{N: 4, Epoch: 2}, []api.Op{reign(5, 3, 0)}, true}, {api.Spot{N: 4, Epoch: 2}, []api.Op{put(4, 2, 0)}, false},
		{api.Spot{N: 79, Epoch: 2}, []api.Op{put(80, 2, 0)}, true}, {api.Spot{N: 80, Epoch: 2}, []api.Op{put(81, 2, 0)}, false},
		{api.Spot{N: 4, Epoch: 2}, []api.Op{with(put(5, 2, 0), func(o *api.Op) { o.Name = "" })}, false}, {api.Spot{}, []api.Op{reign(1, 1, 0), {}}, false},
	} {
		if deed.Row(r.after, r.ops...) != r.may {
			t.Fatal(i, r)
		}
	}
}

// rightCommands are commands of each kind, at the ends of what may be.
func rightCommands() []api.Command {
	do := func(o api.Op, epoch, site, tag int) api.Command {
		o.N, o.Epoch, o.Site = 0, 0, 0
		return api.Command{Kind: api.CmdDo, Epoch: epoch, Site: site, Op: o, Tag: tag}
	}
	var eight []api.Op
	for n := range 8 {
		eight = append(eight, put(5+n, 3, 1))
	}
	return []api.Command{
		{}, do(put(1, 1, 0), 1, 0, 0), do(drop(1, 1, 0), 16, 1, 1<<40), {Kind: api.CmdLook}, {Kind: api.CmdLook, Tag: 1 << 40},
		{Kind: api.CmdShip, Epoch: 1}, {Kind: api.CmdShip, Epoch: 16, Site: 1, After: 80, Since: 16}, {Kind: api.CmdShip, Epoch: 3, Site: 1, After: 4, Since: 3, Ops: eight},
		{Kind: api.CmdShip, Epoch: 2, Ops: []api.Op{reign(1, 1, 1), put(2, 1, 1), reign(3, 2, 0)}}, {Kind: api.CmdReign, Epoch: 1}, {Kind: api.CmdReign, Epoch: 16, Site: 1},
		{Kind: api.CmdMark, Epoch: 1, After: 1, Since: 1}, {Kind: api.CmdMark, Epoch: 16, Site: 1, After: 80, Since: 16},
	}
}

func wrongCommands() []api.Command {
	var list []api.Command
	add := func(c api.Command, turns ...func(*api.Command)) {
		for _, turn := range turns {
			x := c
			turn(&x)
			list = append(list, x)
		}
	}
	noOp := []func(*api.Command){
		func(c *api.Command) { c.Op.N = 1 }, func(c *api.Command) { c.Op.Epoch = 1 }, func(c *api.Command) { c.Op.Kind = 1 }, func(c *api.Command) { c.Op.Site = 1 }, func(c *api.Command) { c.Op.Client = 1 }, func(c *api.Command) { c.Op.Seq = 1 }, func(c *api.Command) { c.Op.Name = "x" }, func(c *api.Command) { c.Op.Sheet.Size = 1 }, func(c *api.Command) { c.Op.Sheet.Hashes = []string{""} },
	}
	noTag := []func(*api.Command){func(c *api.Command) { c.Tag = 1 }, func(c *api.Command) { c.Tag = -1 }}
	badTag := []func(*api.Command){func(c *api.Command) { c.Tag = 1<<40 + 1 }, func(c *api.Command) { c.Tag = -1 }}
	nowhere := []func(*api.Command){func(c *api.Command) { c.After = 1 }, func(c *api.Command) { c.Since = 1 }, func(c *api.Command) { c.After, c.Since = 1, 1 }}
	noOps := []func(*api.Command){func(c *api.Command) { c.Ops = []api.Op{{}} }, func(c *api.Command) { c.Ops = []api.Op{reign(1, 1, 0)} }}
	nobody := []func(*api.Command){func(c *api.Command) { c.Epoch = 1 }, func(c *api.Command) { c.Site = 1 }}
	holder := []func(*api.Command){func(c *api.Command) { c.Epoch = 0 }, func(c *api.Command) { c.Epoch = 17 }, func(c *api.Command) { c.Epoch = -1 }, func(c *api.Command) { c.Site = 2 }, func(c *api.Command) { c.Site = -1 }}
	for _, c := range rightCommands() {
		switch c.Kind {
		case api.CmdIdle, api.CmdLook:
			add(c, nobody...)
			add(c, noOp...)
			add(c, nowhere...)
			add(c, noOps...)
			if c.Kind == api.CmdIdle {
				add(c, func(c *api.Command) { c.Tag = -1 })
			} else {
				add(c, badTag...)
			}
		case api.CmdDo:
			add(c, holder...)
			add(c, nowhere...)
			add(c, noOps...)
			add(c, badTag...)
			add(c, noOp[:2]...)
			add(c, func(c *api.Command) { c.Op.Site = 1 }, func(c *api.Command) { c.Op.Kind = 0 }, func(c *api.Command) { c.Op = api.Op{Kind: api.OpReign} }, func(c *api.Command) { c.Op.Client = 8 }, func(c *api.Command) { c.Op.Seq = 0 }, func(c *api.Command) { c.Op.Name = "" }, func(c *api.Command) { c.Op.Sheet.Size = -1 })
		case api.CmdShip:
			add(c, holder...)
			add(c, noOp...)
			add(c, noTag...)
		case api.CmdReign, api.CmdMark:
			add(c, holder...)
			add(c, noOp...)
			add(c, noTag...)
			add(c, noOps...)
			if c.Kind == api.CmdReign {
				add(c, nowhere...)
			} else {
				add(c, func(c *api.Command) { c.After = 0 }, func(c *api.Command) { c.After = 81 }, func(c *api.Command) { c.Since = 0 }, func(c *api.Command) { c.Since = c.Epoch + 1 })
			}
		}
	}
	ship := api.Command{Kind: api.CmdShip, Epoch: 3, Site: 1, After: 4, Since: 3}
	var nine []api.Op
	for n := range 9 {
		nine = append(nine, put(5+n, 3, 1))
	}
	add(ship, func(c *api.Command) { c.Ops = nine }, func(c *api.Command) { c.Epoch = 2 }, func(c *api.Command) { c.After = 0 }, func(c *api.Command) { c.Since = 0 }, func(c *api.Command) { c.After = 81 }, func(c *api.Command) { c.Ops = []api.Op{put(6, 3, 1)} }, func(c *api.Command) { c.Ops = []api.Op{reign(5, 4, 1)} }, func(c *api.Command) { c.Ops = []api.Op{put(5, 3, 1), {}} })
	return append(list, api.Command{Kind: 6}, api.Command{Kind: -1}, api.Command{Tag: 1})
}

func TestCheck(t *testing.T) { // P11.1
	for i, c := range rightCommands() {
		if deed.Check(c) != api.OK {
			t.Fatal(i, c)
		}
	}
	for i, c := range wrongCommands() {
		if deed.Check(c) != api.ErrForm {
			t.Fatal(i, c)
		}
	}
}

func opBytes(o api.Op) string {
	return pack.Nums(o.N, o.Epoch, o.Kind, o.Site, o.Client, o.Seq) + pack.Text(o.Name) + pack.Text(sheet.Pack(o.Sheet))
}

func sameOps(a, b []api.Op) bool { return len(a) == 0 && len(b) == 0 || reflect.DeepEqual(a, b) }

func TestOpsAsBytes(t *testing.T) { // P11.2
	lists := [][]api.Op{nil, {put(1, 1, 0)}, {reign(9, 2, 1), put(1, 1, 0), drop(80, 16, 1)}}
	for _, list := range lists {
		s := pack.Nums(len(list))
		for _, o := range list {
			s += opBytes(o)
		}
		if deed.PackOps(list...) != s {
			t.Fatal(list)
		}
		got, e := deed.ParseOps(s)
		if e != api.OK || !sameOps(got, list) {
			t.Fatal(e, got)
		}
		for _, bad := range []string{s + "\x00", s[:len(s)-1], "\x80" + s, pack.Nums(len(list)+1) + s[1:], pack.Nums(-1) + s[1:]} {
			if got, e := deed.ParseOps(bad); e != api.ErrForm || len(got) != 0 {
				t.Fatalf("%x", bad)
			}
		}
	}
	for i, o := range wrongOps() {
		if s := deed.PackOps(o); s != "\x02"+opBytes(o) {
			t.Fatal("PackOps, whatever they are")
		}
		if got, e := deed.ParseOps(deed.PackOps(reign(1, 1, 1), o)); e != api.ErrForm || len(got) != 0 {
			t.Fatal(i, o)
		}
	}
	if _, e := deed.ParseOps(pack.Nums(math.MaxInt)); e != api.ErrForm {
		t.Fatal(e)
	}
}

func TestCommandsAsBytes(t *testing.T) { // P11.3, P11.4
	idle := strings.Repeat("\x00", 6) + "\x02" + strings.Repeat("\x00", 6) + "\x00" + "\x04\x00\x00" + "\x00"
	if deed.Pack(api.Command{}) != idle {
		t.Fatalf("%x", deed.Pack(api.Command{}))
	}
	for _, c := range append(rightCommands(), wrongCommands()...) {
		if deed.Pack(c) != pack.Nums(c.Kind, c.Epoch, c.Site, c.After, c.Since, c.Tag)+deed.PackOps(c.Op)+deed.PackOps(c.Ops...) {
			t.Fatal(c)
		}
	}
	for i, c := range rightCommands() {
		s := deed.Pack(c)
		got, e := deed.Parse(s)
		if e != api.OK || !reflect.DeepEqual(got, c) {
			t.Fatal(i, got)
		}
		for cut := range s {
			if got, e := deed.Parse(s[:cut]); e != api.ErrForm || !reflect.DeepEqual(got, api.Command{}) {
				t.Fatal(i, cut)
			}
		}
		for at := range s {
			b := []byte(s)
			b[at] ^= 1
			if got, e := deed.Parse(string(b)); e == api.OK && deed.Pack(got) != string(b) {
				t.Fatal("bytes are written in one way", i, at)
			}
		}
		if _, e := deed.Parse(s + "\x00"); e != api.ErrForm {
			t.Fatal(i)
		}
	}
	for i, c := range wrongCommands() {
		if got, e := deed.Parse(deed.Pack(c)); e != api.ErrForm || !reflect.DeepEqual(got, api.Command{}) {
			t.Fatal(i, c)
		}
	}
	two := strings.Repeat("\x00", 6) + deed.PackOps(api.Op{}, api.Op{}) + "\x00"
	none := strings.Repeat("\x00", 6) + deed.PackOps() + "\x00"
	zero := opBytes(api.Op{})
	oddTwo := strings.Repeat("\x00", 6) + pack.Nums(2) + zero + "\x00"
	oddNone := strings.Repeat("\x00", 6) + pack.Nums(0) + zero + "\x00"
	for _, s := range []string{two, none, oddTwo, oddNone, ""} {
		if _, e := deed.Parse(s); e != api.ErrForm {
			t.Fatalf("%x", s)
		}
	}
}
