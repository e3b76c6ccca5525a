package node_test

import (
	"math"
	"reflect"
	"slices"
	"strings"
	"testing"

	"redoubt/api"
	"redoubt/deed"
	"redoubt/disk"
	"redoubt/keep"
	"redoubt/ledger"
	"redoubt/mail"
	"redoubt/node"
	"redoubt/sha"
	"redoubt/sheet"
	"redoubt/wal"
)

var conf = api.Conf{Quota: 2000, Ops: 20, Epochs: 4, Rate: 10, Burst: 64, Base: 2, Spread: 3, Snap: 4}

// net is six nodes, their drives, and the letters between them.
type net struct {
	t       *testing.T
	conf    api.Conf
	nodes   [6]*node.Node
	drives  [6]*disk.Disk
	letters []api.Letter
	replies []api.Reply
	grant   api.Grant
	asked   int
}

func lay(t *testing.T, c api.Conf) *net {
	t.Helper()
	w := &net{t: t, conf: c}
	for id := range w.nodes {
		w.drives[id] = disk.New()
		w.open(id)
	}
	return w
}

func (w *net) open(id int) {
	w.t.Helper()
	n, e := node.Open(w.conf, id, w.drives[id])
	if e != api.OK {
		w.t.Fatal(e)
	}
	w.nodes[id] = n
}

func (w *net) hear(x []api.Reply, l []api.Letter) {
	w.replies = append(w.replies, x...)
	w.letters = append(w.letters, l...)
}

// come lets all letters come, but those that are lost; the witness grants what it is asked for.
func (w *net) come(lost func(l api.Letter) bool) {
	for n := 0; len(w.letters) > 0; n++ {
		if n > 5000 {
			w.t.Fatal("letters without end")
		}
		l := w.letters[0]
		w.letters = w.letters[1:]
		switch {
		case lost != nil && lost(l):
		case l.To == api.Witness:
			if m, e := mail.Parse(l.Data); e == api.OK && m.Kind == api.MailClaim {
				if m.Epoch == w.grant.Epoch+1 {
					w.grant = api.Grant{Epoch: m.Epoch, Site: m.Site}
				}
				w.hear(w.nodes[l.From].Take(api.Letter{From: api.Witness, To: l.From, Data: pack(w.t, api.Mail{Kind: api.MailGrant, Epoch: w.grant.Epoch, Site: w.grant.Site})}))
			}
		default:
			w.hear(w.nodes[l.To].Take(l))
		}
	}
}

func (w *net) tick(ids ...int) {
	for _, id := range ids {
		w.hear(w.nodes[id].Tick(id))
	}
}

func (w *net) ask(id int, a api.Ask) int {
	w.asked++
	w.hear(w.nodes[id].Ask(w.asked-1, a))
	return w.asked - 1
}

// reply is the one to a request, if it is there.
func (w *net) reply(number int) (api.Reply, bool) {
	for _, x := range w.replies {
		if x.Ask == number {
			return x, true
		}
	}
	return api.Reply{}, false
}

func (w *net) answered(number int, want api.Reply) {
	w.t.Helper()
	got, ok := w.reply(number)
	want.Ask = number
	if !ok || !reflect.DeepEqual(norm(got), norm(want)) {
		w.t.Fatalf("answered %v %+v, not %+v", ok, got, want)
	}
}

func norm(x api.Reply) api.Reply {
	if len(x.Names) == 0 {
		x.Names = nil
	}
	if len(x.Lost) == 0 {
		x.Lost = nil
	}
	return x
}

func pack(t *testing.T, m api.Mail) string {
	t.Helper()
	s, e := mail.Pack(m)
	if e != api.OK {
		t.Fatal(e, m)
	}
	return s
}

// parse are the mails of letters.
func parse(t *testing.T, list []api.Letter) []api.Mail {
	t.Helper()
	var out []api.Mail
	for _, l := range list {
		m, e := mail.Parse(l.Data)
		if e != api.OK {
			t.Fatal(e)
		}
		out = append(out, m)
	}
	return out
}

// site0 has node 0 as the leader of site 0; withReign also as that of the primary site.
func site0(t *testing.T, c api.Conf) *net {
	t.Helper()
	w := lay(t, c)
	for range c.Base {
		w.tick(0)
	}
	w.come(nil)
	if !w.nodes[0].Leads() {
		t.Fatal("one leads")
	}
	return w
}

func withReign(t *testing.T, c api.Conf) *net {
	t.Helper()
	w := site0(t, c)
	w.answered(w.ask(0, api.Ask{Kind: api.AskReign}), api.Reply{})
	w.tick(0)
	w.come(nil)
	w.tick(0)
	w.come(nil)
	if got := w.nodes[0].Ledger().Last(); got != (api.Spot{N: 1, Epoch: 1}) {
		t.Fatal(got)
	}
	return w
}

func put(seq int, name, data string) api.Ask {
	return api.Ask{Kind: api.AskPut, Client: 1, Seq: seq, Name: name, Data: data}
}

func TestCheck(t *testing.T) { // P23.1
	if node.Check(conf) != api.OK {
		t.Fatal("it may be")
	}
	low := api.Conf{Quota: 1, Ops: 1, Epochs: 1, Rate: 1, Burst: 64, Base: 2, Spread: 1, Snap: 1}
	high := api.Conf{Quota: 1 << 16, Ops: 64, Epochs: 16, Rate: 1 << 12, Burst: 1 << 14, Base: 64, Spread: 64, Snap: 64}
	fields := func(c *api.Conf) []*int {
		return []*int{&c.Quota, &c.Ops, &c.Epochs, &c.Rate, &c.Burst, &c.Base, &c.Spread, &c.Snap}
	}
	for i := range fields(&low) {
		for _, c := range []struct {
			conf api.Conf
			step int
		}{{low, -1}, {high, 1}} {
			if node.Check(c.conf) != api.OK {
				t.Fatal(c.conf)
			}
			*fields(&c.conf)[i] += c.step
			if node.Check(c.conf) != api.ErrArg {
				t.Fatal(c.conf)
			}
			if n, e := node.Open(c.conf, 0, disk.New()); n != nil || e != api.ErrArg {
				t.Fatal(e)
			}
			*fields(&c.conf)[i] = math.MinInt
			if node.Check(c.conf) != api.ErrArg {
				t.Fatal(c.conf)
			}
		}
	}
}

func TestOpen(t *testing.T) { // P23.1
	for _, id := range []int{-1, 6, math.MaxInt} {
		if n, e := node.Open(conf, id, nil); n != nil || e != api.ErrArg {
			t.Fatal(id, e)
		}
	}
	refused := func(d *disk.Disk, want api.Errno) {
		t.Helper()
		if n, e := node.Open(conf, 0, d); n != nil || e != want {
			t.Fatal(e)
		}
	}
	refused(nil, api.ErrNil)
	d := disk.New()
	d.Fuse(0)
	d.Append("x", "")
	refused(d, api.ErrDown)
	base := func(k api.Kept) *disk.Disk {
		d := disk.New()
		x, _, _ := keep.Open(d)
		x.Lay(k)
		return d
	}
	d = disk.New()
	l, _, _, _ := wal.Open(d)
	l.Lay("none")
	refused(d, api.ErrForm)
	refused(base(api.Kept{Vote: 3}), api.ErrForm)                                  // none of poll's
	refused(base(api.Kept{Term: 1, Base: 1, BaseTerm: 1, Snap: "x"}), api.ErrForm) // none of ledger's
	led, _ := ledger.New(1, 1)
	led.Apply(api.Command{Kind: api.CmdReign, Epoch: 2, Site: 1})
	d = base(api.Kept{Term: 3, Vote: -1, Base: 7, BaseTerm: 2, Snap: led.Pack(), Entries: []api.Entry{{Term: 3}}})
	d.Append("b.bad", "x")
	n, e := node.Open(conf, 4, d)
	if e != api.OK || n.Applied() != 7 || n.Ledger().Pack() != led.Pack() || n.Leads() || n.Waits() != 0 || len(n.Missing()) != 0 {
		t.Fatal(e)
	}
	if r := n.Whole(); r.At != (api.Spot{N: 1, Epoch: 2}) || len(r.Holes) != 0 {
		t.Fatal(r)
	}
	if len(d.Names("b.")) != 0 {
		t.Fatal("the vault was opened")
	}
	d = base(api.Kept{Term: 3, Vote: -1})
	d.Append("b.bad", "x")
	d.Fuse(0)
	refused(d, api.ErrDown)
}

func TestOneLeads(t *testing.T) { // P23.3, P23.4
	w := lay(t, conf)
	for id := range 6 {
		n := w.nodes[id]
		if n.Leads() || n.Applied() != 0 || n.Whole().At != (api.Spot{}) || len(n.Missing()) != 0 || n.Ledger().Last() != (api.Spot{}) {
			t.Fatal("a new one")
		}
	}
	w.tick(1)
	for i, l := range w.letters {
		if l.From != 1 || l.To != i*2 {
			t.Fatal(l)
		}
	}
	whole := api.Mail{Kind: api.MailWhole}
	if got := parse(t, w.letters); !reflect.DeepEqual(got, []api.Mail{whole, whole}) {
		t.Fatal(got)
	}
	w.letters = nil
	w.tick(1)
	ask := api.Mail{Kind: api.MailAsk, Term: 1}
	if got := parse(t, w.letters); !reflect.DeepEqual(got, []api.Mail{ask, ask, whole, whole}) {
		t.Fatal("those of its part, then the others", got)
	}
	w.come(nil)
	w.tick(1)
	w.come(nil)
	for id := range 3 {
		if w.nodes[id].Leads() != (id == 1) || w.nodes[id].Applied() != 1 {
			t.Fatal(id, w.nodes[id].Applied())
		}
	}
	w.tick(1)
	var to []int
	for _, l := range w.letters {
		to = append(to, l.To)
	}
	feed := api.Mail{Kind: api.MailFeed, Term: 1, Index: 1, Prev: 1, Commit: 1}
	if got := parse(t, w.letters); !reflect.DeepEqual(got, []api.Mail{feed, feed, whole, whole, {Kind: api.MailClaim}}) || !slices.Equal(to, []int{0, 2, 0, 2, 6}) {
		t.Fatal(got, to)
	}
}

func TestAskRefused(t *testing.T) { // P23.2
	w := site0(t, conf)
	refused := func(id int, a api.Ask, e api.Errno) {
		t.Helper()
		w.answered(w.ask(id, a), api.Reply{Err: e})
	}
	long := strings.Repeat("x", 513)
	good := []api.Ask{put(1, "a", "x"), {Kind: api.AskDrop, Seq: 1, Name: "a"}, {Kind: api.AskList}, {Kind: api.AskRestore, Name: "a"}, {Kind: api.AskReign}, {Kind: api.AskLost}}
	turns := []func(a *api.Ask){
		func(a *api.Ask) { a.Kind = 0 }, func(a *api.Ask) { a.Kind = 7 }, func(a *api.Ask) { a.Kind = -1 }, func(a *api.Ask) { a.Client = 8 }, func(a *api.Ask) { a.Client = -1 },
		func(a *api.Ask) { a.Seq = 0 }, func(a *api.Ask) { a.Seq = 1<<40 + 1 }, func(a *api.Ask) { a.Mode = 3 }, func(a *api.Ask) { a.Mode = -1 }, func(a *api.Ask) { a.Lag = 65 }, func(a *api.Ask) { a.Lag = -1 },
		func(a *api.Ask) { a.Name = "" }, func(a *api.Ask) { a.Name = long[:17] },
	}
	for i, a := range good {
		for k, turn := range turns {
			if k >= 5 && i > 1 && (k < 11 || i != 3) {
				continue
			}
			x := a
			turn(&x)
			x.Data = long
			refused(0, x, api.ErrArg)
			refused(2, x, api.ErrArg)
		}
		refused(2, a, api.ErrFollower)
		refused(5, a, api.ErrFollower)
	}
	refused(2, put(1, "a", long), api.ErrLong)
	refused(0, put(1, "a", long), api.ErrLong)
	refused(0, good[0], api.ErrPrimary)
	refused(0, good[1], api.ErrPrimary)
	if w.nodes[0].Waits() != 0 {
		t.Fatal(w.nodes[0].Waits())
	}
	w.answered(w.ask(0, api.Ask{Kind: api.AskReign, Seq: -9, Mode: 9, Lag: 99, Name: long}), api.Reply{})
}

func TestAskReign(t *testing.T) { // P23.2
	w := withReign(t, conf)
	if w.grant != (api.Grant{Epoch: 1, Site: 0}) {
		t.Fatal(w.grant)
	}
	w.answered(w.ask(0, api.Ask{Kind: api.AskReign}), api.Reply{At: api.Spot{N: 1, Epoch: 1}})
	p := w.ask(0, put(1, "a", "x"))
	w.come(nil)
	for range 6 {
		w.tick(0, 1, 2)
		w.come(nil)
	}
	w.answered(p, api.Reply{At: api.Spot{N: 2, Epoch: 1}})
	w.answered(w.ask(0, api.Ask{Kind: api.AskReign}), api.Reply{At: api.Spot{N: 1, Epoch: 1}})
	// the crown heard of another epoch
	ship := api.Mail{Kind: api.MailShip, Epoch: 2, Site: 1, At: api.Spot{N: 9, Epoch: 2}}
	w.hear(w.nodes[0].Take(api.Letter{From: 3, To: 0, Data: pack(t, ship)}))
	w.answered(w.ask(0, put(2, "b", "x")), api.Reply{Err: api.ErrStale})
	w.answered(w.ask(0, api.Ask{Kind: api.AskReign}), api.Reply{At: api.Spot{N: 2, Epoch: 1}})
	w.letters = nil
	w.tick(0)
	if m := parse(t, w.letters); !slices.ContainsFunc(m, func(m api.Mail) bool { return m.Kind == api.MailClaim && m.Epoch == 3 && m.Site == 0 }) {
		t.Fatal("it wants one above all", m)
	}
	one := conf
	one.Epochs = 1
	w = withReign(t, one)
	w.hear(w.nodes[0].Take(api.Letter{From: 3, To: 0, Data: pack(t, ship)}))
	w.answered(w.ask(0, api.Ask{Kind: api.AskReign}), api.Reply{Err: api.ErrSaturated})
}

func TestExample(t *testing.T) { // P23.2, P23.3
	w := withReign(t, conf)
	n := w.ask(0, put(1, "a", "some bytes"))
	if w.nodes[0].Waits() != 1 {
		t.Fatal("it waits")
	}
	got := parse(t, w.letters)
	last := got[len(got)-1].Entries
	cmd, e := deed.Parse(last[len(last)-1].Data)
	s, _ := sheet.Make("some bytes")
	if e != api.OK || !reflect.DeepEqual(cmd, api.Command{Kind: api.CmdDo, Epoch: 1, Op: api.Op{Kind: api.OpPut, Client: 1, Seq: 1, Name: "a", Sheet: s}}) {
		t.Fatal(cmd)
	}
	blobs := func(l api.Letter) bool {
		m, _ := mail.Parse(l.Data)
		return m.Kind == api.MailBlob
	}
	w.come(blobs)
	for range 4 {
		w.tick(0, 1, 2)
		w.come(blobs)
	}
	if _, ok := w.reply(n); ok {
		t.Fatal("only one node has all chunks")
	}
	if r := w.nodes[1].Whole(); r.At != (api.Spot{N: 2, Epoch: 1}) || !slices.Equal(r.Holes, []int{2}) || !slices.Equal(w.nodes[1].Missing(), s.Hashes) {
		t.Fatal(r)
	}
	r := w.ask(0, api.Ask{Kind: api.AskRestore, Name: "a"})
	list := w.ask(0, api.Ask{Kind: api.AskList})
	no := w.ask(0, api.Ask{Kind: api.AskRestore, Name: "b"})
	lost := w.ask(0, api.Ask{Kind: api.AskLost})
	w.come(blobs)
	at := api.Spot{N: 2, Epoch: 1}
	w.answered(r, api.Reply{Data: "some bytes", At: at})
	w.answered(list, api.Reply{Names: []string{"a"}, At: at})
	w.answered(no, api.Reply{Err: api.ErrNotFound, At: at})
	w.answered(lost, api.Reply{At: at})
	for range 6 {
		w.tick(0, 1, 2)
		w.come(nil)
	}
	w.answered(n, api.Reply{At: at})
	if len(w.nodes[1].Missing())+len(w.nodes[2].Missing()) != 0 || w.nodes[0].Waits() != 0 {
		t.Fatal("all have it")
	}
	again := w.ask(0, put(1, "a", "some bytes"))
	there := w.ask(0, put(2, "a", "other"))
	gone := w.ask(0, api.Ask{Kind: api.AskDrop, Client: 2, Seq: 1, Name: "b"})
	w.come(nil)
	w.answered(gone, api.Reply{Err: api.ErrNotFound})
	gone = w.ask(0, api.Ask{Kind: api.AskDrop, Client: 2, Seq: 2, Name: "a"})
	for range 2 {
		w.come(nil)
		w.tick(0, 1, 2)
	}
	w.come(nil)
	w.answered(gone, api.Reply{At: api.Spot{N: 3, Epoch: 1}})
	if len(w.nodes[1].Ledger().Names()) != 0 {
		t.Fatal(w.nodes[1].Ledger().Names())
	}
	w.answered(again, api.Reply{At: at})
	w.answered(there, api.Reply{Err: api.ErrThere})
}

func TestQueueAndQuota(t *testing.T) { // P23.2
	c := conf
	c.Ops, c.Quota = 3, 1
	w := withReign(t, c)
	for range 8 {
		w.ask(0, api.Ask{Kind: api.AskList})
	}
	w.answered(w.ask(0, put(1, "a", "")), api.Reply{Err: api.ErrQueue})
	w.answered(w.ask(0, api.Ask{Kind: api.AskLost}), api.Reply{Err: api.ErrQueue})
	w.come(nil)
	if w.nodes[0].Waits() != 0 {
		t.Fatal("all are answered")
	}
	// chunks that nobody needs fill the vault; behind a Sweep there is room, and what was put first isn't swept
	for i := range 300 {
		b := make([]byte, 512)
		for k := range b {
			b[k] = byte(i + i/256*7 + k/64*(i+1) + k*k)
		}
		b[0], b[64], b[128], b[192], b[256], b[320], b[384], b[448] = byte(i), byte(i), byte(i), byte(i), byte(i), byte(i), byte(i), byte(i)
		n := w.ask(0, put(i+1, "a", string(b)))
		before, _ := sheet.Make(string(b))
		for _, h := range before.Hashes {
			if _, ok := w.drives[0].Read("b." + sha.Name(h)); !ok {
				t.Fatal("a chunk of what is under way was swept", i)
			}
		}
		w.come(nil)
		w.answered(n, api.Reply{Err: api.ErrQuota}) // the ledger's
		if files := len(w.drives[0].Names("b.")); i < 9 && files != 8*(i+1) {
			t.Fatal("where nothing is refused nothing is swept", i, files)
		}
	}
	w.tick(0)
	if len(w.drives[0].Names("b.")) != 0 {
		t.Fatal("what nobody needs is swept")
	}
}

func TestWantAndBlob(t *testing.T) { // P23.3
	w := withReign(t, conf)
	one, two := strings.Repeat("1", 40), strings.Repeat("2", 40)
	n := w.ask(0, put(1, "a", one))
	m := w.ask(0, put(2, "b", two))
	w.come(nil)
	for range 12 {
		w.tick(0, 1, 2)
		w.come(nil)
	}
	w.answered(n, api.Reply{At: api.Spot{N: 2, Epoch: 1}})
	w.answered(m, api.Reply{At: api.Spot{N: 3, Epoch: 1}})
	h := []string{sha.Sum(one), sha.Sum("none"), sha.Sum(two)}
	want := pack(t, api.Mail{Kind: api.MailWant, Hashes: h})
	serve := func(from int, chunks ...string) {
		t.Helper()
		x, l := w.nodes[1].Take(api.Letter{From: from, To: 1, Data: want})
		if len(x) != 0 || len(l) != len(chunks) {
			t.Fatal(from, len(l))
		}
		for i, g := range parse(t, l) {
			if g.Kind != api.MailBlob || g.Data != chunks[i] || l[i].To != from || l[i].From != 1 {
				t.Fatal(g)
			}
		}
	}
	for range 3 {
		serve(0, one, two) // a node of its site: without a bucket
		serve(2, one, two)
	}
	serve(4, one) // Burst is 64
	serve(6)
	w.nodes[1].Tick(0)
	w.nodes[1].Tick(0)
	serve(6, one)
	serve(3)
	// a chunk is taken only if it is missed
	steps := w.drives[1].Steps()
	w.nodes[1].Take(api.Letter{From: 5, To: 1, Data: pack(t, api.Mail{Kind: api.MailBlob, Data: "other"})})
	w.nodes[1].Take(api.Letter{From: 5, To: 1, Data: pack(t, api.Mail{Kind: api.MailBlob, Data: one})})
	if w.drives[1].Steps() != steps {
		t.Fatal("nothing is written")
	}
	w.drives[1].Flip("b."+sha.Name(h[0]), 5)
	if !slices.Equal(w.nodes[1].Missing(), h[:1]) {
		t.Fatal(w.nodes[1].Missing())
	}
	_, l := w.nodes[1].Tick(0)
	r := w.nodes[1].Whole()
	if !slices.Equal(r.Holes, []int{2}) {
		t.Fatal("its own report is made anew", r)
	}
	if r.Holes[0] = 9; w.nodes[1].Whole().Holes[0] != 2 {
		t.Fatal("what is answered is new memory")
	}
	if !slices.ContainsFunc(parse(t, l), func(m api.Mail) bool { return m.Kind == api.MailWant && slices.Equal(m.Hashes, h[:1]) }) {
		t.Fatal("it is asked for")
	}
	w.nodes[1].Take(api.Letter{From: 99, To: 1, Data: pack(t, api.Mail{Kind: api.MailBlob, Data: one})})
	if len(w.nodes[1].Missing()) != 0 || len(w.nodes[1].Whole().Holes) != 0 {
		t.Fatal("it was taken")
	}
}

func TestLetGo(t *testing.T) { // P23.3
	w := withReign(t, conf)
	ledgers := w.nodes[0].Ledger().Pack()
	nothing := func(to, from int, data string) {
		t.Helper()
		if x, l := w.nodes[0].Take(api.Letter{From: from, To: to, Data: data}); len(x) != 0 || len(l) != 0 {
			t.Fatal(x, parse(t, l))
		}
	}
	vote := pack(t, api.Mail{Kind: api.MailAsk, Term: 99, Index: 99, Prev: 99})
	nothing(1, 1, vote)
	nothing(0, 1, vote[:len(vote)-1])
	nothing(0, 1, vote+"\x00")
	nothing(0, 1, "")
	for _, from := range []int{0, 3, 4, 6, -1, -2, 7, math.MaxInt, math.MinInt} {
		nothing(0, from, pack(t, api.Mail{Kind: api.MailWhole, At: api.Spot{N: 1, Epoch: 1}}))
		nothing(0, from, vote)
		nothing(0, from, pack(t, api.Mail{Kind: api.MailLay, Term: 99, Index: 99, Prev: 99, Data: "x"}))
	}
	nothing(0, 1, pack(t, api.Mail{Kind: api.MailLay, Term: 99, Index: 99, Prev: 99, Data: "no ledger"}))
	for _, from := range []int{1, 0, 6, -1, 9} {
		nothing(0, from, pack(t, api.Mail{Kind: api.MailShip, Epoch: 3, Site: 1}))
		nothing(0, from, pack(t, api.Mail{Kind: api.MailShipped, Epoch: 3}))
	}
	for _, from := range []int{0, 1, 3, -1, 9} {
		nothing(0, from, pack(t, api.Mail{Kind: api.MailGrant, Epoch: 3, Site: 1}))
	}
	nothing(0, 6, pack(t, api.Mail{Kind: api.MailClaim, Epoch: 3, Site: 1}))
	if !w.nodes[0].Leads() || w.nodes[0].Ledger().Pack() != ledgers {
		t.Fatal("nothing is done")
	}
	if w.ask(0, put(1, "a", "")); w.nodes[0].Waits() != 1 {
		t.Fatal("it is the primary site's leader still")
	}
}

// both has both sites' leaders, 0 and 3, of which site 0 is the primary one.
func both(t *testing.T, c api.Conf) *net {
	t.Helper()
	w := withReign(t, c)
	for range c.Base {
		w.tick(3)
	}
	w.come(nil)
	if !w.nodes[3].Leads() {
		t.Fatal("one leads")
	}
	return w
}

func (w *net) rounds(n int, lost func(l api.Letter) bool) {
	for range n {
		w.tick(0, 1, 2, 3, 4, 5)
		w.come(lost)
	}
}

func kindsOf(t *testing.T, list []api.Letter, kind int) []api.Mail {
	t.Helper()
	var out []api.Mail
	for _, m := range parse(t, list) {
		if m.Kind == kind {
			out = append(out, m)
		}
	}
	return out
}

func TestSites(t *testing.T) { // P23.3, P23.4
	w := both(t, conf)
	w.tick(0)
	var to []int
	for _, l := range w.letters {
		if m, _ := mail.Parse(l.Data); m.Kind == api.MailShip {
			to = append(to, l.To)
			if m.Epoch != 1 || m.Site != 0 || l.From != 0 {
				t.Fatal(m)
			}
		}
	}
	if !slices.Equal(to, []int{3, 4, 5}) {
		t.Fatal("to all three nodes of the other site", to)
	}
	w.come(nil)
	w.tick(3)
	if len(kindsOf(t, w.letters, api.MailShip)) != 0 || len(kindsOf(t, w.letters, api.MailClaim)) != 1 {
		t.Fatal("it isn't the primary site's")
	}
	w.come(nil)
	w.rounds(4, nil)
	if w.nodes[4].Ledger().Last() != (api.Spot{N: 1, Epoch: 1}) || w.nodes[0].Ledger().Settled() != 1 || w.nodes[3].Ledger().Fence() != 1 {
		t.Fatal("it was shipped, and marked", w.nodes[0].Ledger().Settled())
	}
	w.answered(w.ask(3, put(1, "q", "")), api.Reply{Err: api.ErrPrimary})
	a := put(1, "a", "at both")
	a.Mode = api.ModeSync
	b := put(2, "b", "nearly")
	b.Mode, b.Lag = api.ModeLag, 1
	far := func(l api.Letter) bool { return l.From/3 != l.To/3 && l.To != 6 }
	na, nb := w.ask(0, a), w.ask(0, b)
	w.come(far)
	w.rounds(8, far)
	if _, ok := w.reply(na); ok {
		t.Fatal("the other site hasn't it")
	}
	if _, ok := w.reply(nb); ok {
		t.Fatal("the other site hasn't the one ahead")
	}
	blobs := func(l api.Letter) bool {
		m, _ := mail.Parse(l.Data)
		return m.Kind == api.MailBlob && l.To > 2
	}
	w.rounds(6, blobs)
	w.answered(nb, api.Reply{At: api.Spot{N: 3, Epoch: 1}})
	if _, ok := w.reply(na); ok {
		t.Fatal("the other site hasn't its chunks")
	}
	w.rounds(12, nil)
	w.answered(na, api.Reply{At: api.Spot{N: 2, Epoch: 1}})
	if w.nodes[0].Ledger().Settled() != 3 || len(w.nodes[5].Missing()) != 0 {
		t.Fatal(w.nodes[0].Ledger().Settled())
	}
	list := w.ask(3, api.Ask{Kind: api.AskList})
	get := w.ask(3, api.Ask{Kind: api.AskRestore, Name: "a"})
	w.come(nil)
	w.answered(list, api.Reply{Names: []string{"a", "b"}, At: api.Spot{N: 3, Epoch: 1}})
	w.answered(get, api.Reply{Data: "at both", At: api.Spot{N: 3, Epoch: 1}})
	// the other site reigns; what hasn't come there is lost here
	c := w.ask(0, put(3, "c", "here only"))
	w.come(far)
	w.rounds(6, far)
	w.answered(c, api.Reply{At: api.Spot{N: 4, Epoch: 1}})
	late := put(4, "d", "late")
	late.Mode = api.ModeSync
	d := w.ask(0, late)
	w.come(far)
	w.answered(w.ask(3, api.Ask{Kind: api.AskReign}), api.Reply{At: api.Spot{N: 3, Epoch: 1}})
	w.rounds(2, far)
	if w.grant != (api.Grant{Epoch: 2, Site: 1}) || w.nodes[3].Ledger().Holder() != w.grant {
		t.Fatal(w.grant)
	}
	w.rounds(8, nil)
	w.answered(d, api.Reply{Err: api.ErrUnsure})
	lost := w.ask(0, api.Ask{Kind: api.AskLost})
	w.come(nil)
	x, _ := w.reply(lost)
	if len(x.Lost) != 2 || x.Lost[0].Name != "c" || x.Lost[1].Name != "d" || x.At != (api.Spot{N: 4, Epoch: 2}) {
		t.Fatal(x)
	}
	w.answered(w.ask(0, put(5, "e", "")), api.Reply{Err: api.ErrPrimary})
}

func TestResigns(t *testing.T) { // P23.2, P23.3
	w := withReign(t, conf)
	n := w.ask(0, put(1, "a", "x"))
	m := w.ask(0, api.Ask{Kind: api.AskList})
	w.letters = nil
	w.hear(w.nodes[0].Take(api.Letter{From: 1, To: 0, Data: pack(t, api.Mail{Kind: api.MailFed, Term: 50})}))
	w.answered(n, api.Reply{Err: api.ErrUnsure})
	w.answered(m, api.Reply{Err: api.ErrUnsure})
	if w.nodes[0].Leads() || w.nodes[0].Waits() != 0 {
		t.Fatal("it leads no more")
	}
	w.letters = nil
	w.tick(0)
	if len(kindsOf(t, w.letters, api.MailShip))+len(kindsOf(t, w.letters, api.MailClaim)) != 0 {
		t.Fatal("it has no lane")
	}
	// what it wanted, it wants no more
	w = site0(t, conf)
	w.ask(0, api.Ask{Kind: api.AskReign})
	w.letters = nil
	w.nodes[0].Take(api.Letter{From: 1, To: 0, Data: pack(t, api.Mail{Kind: api.MailFed, Term: 50})})
	for range 9 {
		w.tick(0)
		w.come(nil)
	}
	if !w.nodes[0].Leads() || w.grant.Epoch != 0 {
		t.Fatal(w.grant)
	}
}

func TestSnapshots(t *testing.T) { // P23.3
	w := withReign(t, conf)
	cut := func(l api.Letter) bool { return l.To == 2 || l.From == 2 }
	for i := range 12 {
		n := w.ask(0, put(i+1, string([]byte{byte('a' + i)}), strings.Repeat("z", i)))
		w.come(cut)
		for range 8 {
			w.tick(0, 1)
			w.come(cut)
		}
		if x, _ := w.reply(n); x.Err != api.OK || x.At.N != i+2 {
			t.Fatal(i, x)
		}
	}
	if w.nodes[0].Applied() < 13 || w.nodes[2].Applied() > 5 {
		t.Fatal(w.nodes[0].Applied(), w.nodes[2].Applied())
	}
	for id := range 2 {
		_, kept, e := keep.Open(w.drives[id].Copy())
		if n := w.nodes[id].Applied(); e != api.OK || n-kept.Base >= 4 || kept.Base%4 != 0 {
			t.Fatal("one entry behind the other is done: each fourth one makes a snapshot", n, kept.Base)
		}
	}
	_, kept, e := keep.Open(w.drives[0].Copy())
	if e != api.OK || kept.Base < w.nodes[0].Applied()-4 || len(kept.Entries) > 4 {
		t.Fatal("entries that were done are gone from the drive", kept.Base)
	}
	w.tick(0)
	if len(kindsOf(t, w.letters, api.MailLay)) == 0 {
		t.Fatal("the snapshot goes to who is behind it")
	}
	w.come(nil)
	w.tick(0)
	w.come(nil)
	if w.nodes[2].Applied() != w.nodes[0].Applied() || w.nodes[2].Ledger().Pack() != w.nodes[0].Ledger().Pack() {
		t.Fatal("it is taken up", w.nodes[2].Applied())
	}
	for id := range 3 {
		before := w.nodes[id].Ledger().Pack()
		w.drives[id].Crash()
		w.open(id)
		if w.nodes[id].Leads() || w.nodes[id].Applied() != kept.Base && id == 0 {
			t.Fatal(w.nodes[id].Applied())
		}
		for range 9 {
			w.tick(id)
			w.come(nil)
		}
		if w.nodes[id].Ledger().Pack() != before {
			t.Fatal("it is as it was")
		}
	}
}

func TestNothingAhead(t *testing.T) { // P23.3, P23.5
	ask := pack(t, api.Mail{Kind: api.MailAsk, Term: 7, Index: 9, Prev: 6})
	for fuse := range 3 {
		d := disk.New()
		n, _ := node.Open(conf, 1, d)
		d.Fuse(fuse)
		x, l := n.Take(api.Letter{From: 0, To: 1, Data: ask})
		if (len(l) == 0) != (fuse < 2) || len(x) != 0 {
			t.Fatal("a vote goes out behind what must last", fuse)
		}
		d.Crash(999)
		if fuse == 2 {
			again, e := node.Open(conf, 1, d)
			if e != api.OK {
				t.Fatal(e)
			}
			_, l := again.Take(api.Letter{From: 2, To: 1, Data: ask})
			if m := parse(t, l); len(m) != 1 || m[0].Good {
				t.Fatal("it votes once", m)
			}
			continue
		}
		// its power is gone: it says nothing ever
		for range 9 {
			if x, l := n.Tick(0); len(x)+len(l) != 0 {
				t.Fatal(l)
			}
		}
		if x, l := n.Ask(0, api.Ask{}); len(x)+len(l) != 0 {
			t.Fatal(x)
		}
		if n.Ledger() != nil || n.Applied() != 0 || n.Leads() || n.Whole().At != (api.Spot{}) || n.Missing() != nil || n.Waits() != 0 {
			t.Fatal("of one whose power is gone nothing is told")
		}
	}
	// a put: its chunks, its entry
	for fuse := range 6 {
		w := withReign(t, conf)
		w.drives[0].Fuse(fuse)
		w.ask(0, put(1, "a", strings.Repeat("x", 65)))
		if len(w.letters) > 0 || !w.drives[0].Down() || len(w.replies) != 1 {
			t.Fatal(fuse, len(w.letters))
		}
	}
	w := withReign(t, conf)
	steps := w.drives[0].Steps()
	w.ask(0, put(1, "a", strings.Repeat("x", 65)))
	if w.drives[0].Steps() != steps+6 {
		t.Fatal("two chunks and an entry, each put and synced", w.drives[0].Steps()-steps)
	}
}

// TestSiteMark tells a leader what its mates report, and sees what is far enough by that.
func TestSiteMark(t *testing.T) { // P23.2, P23.3
	spot := func(n int) api.Spot { return api.Spot{N: n, Epoch: 1} }
	for i, c := range []struct {
		one, two      api.Reach
		second, third bool // are the puts at {2, 1}, {3, 1} answered?
	}{
		{api.Reach{}, api.Reach{}, false, false},
		{api.Reach{At: spot(3), Holes: []int{2}}, api.Reach{At: spot(2)}, true, true},
		{api.Reach{At: spot(3), Holes: []int{2, 3}}, api.Reach{}, false, false},
		{api.Reach{At: spot(3), Holes: []int{2, 3}}, api.Reach{At: spot(2)}, true, false},
		{api.Reach{At: spot(2)}, api.Reach{}, true, false},
		{api.Reach{}, api.Reach{At: spot(3), Holes: []int{2}}, false, true},
		{api.Reach{At: spot(2), Holes: []int{2}}, api.Reach{At: spot(3)}, true, true},
		{api.Reach{At: spot(4)}, api.Reach{At: api.Spot{N: 3, Epoch: 2}}, false, false},
		{api.Reach{At: spot(1)}, api.Reach{At: spot(1)}, false, false},
	} {
		w := withReign(t, conf)
		quiet := func(l api.Letter) bool {
			m, _ := mail.Parse(l.Data)
			return m.Kind == api.MailWhole || m.Kind == api.MailBlob
		}
		a, b := w.ask(0, put(1, "a", "x")), w.ask(0, put(2, "b", "y"))
		w.come(quiet)
		for id, r := range map[int]api.Reach{1: c.one, 2: c.two} {
			w.hear(w.nodes[0].Take(api.Letter{From: id, To: 0, Data: pack(t, api.Mail{Kind: api.MailWhole, At: r.At, Holes: r.Holes})}))
		}
		_, second := w.reply(a)
		_, third := w.reply(b)
		if second != c.second || third != c.third {
			t.Fatal(i, second, third)
		}
	}
}

// TestOneAtATime sees that nothing is proposed while an entry isn't done.
func TestOneAtATime(t *testing.T) { // P23.3
	entries := func(list []api.Letter) int {
		n := 0
		for _, m := range kindsOf(t, list, api.MailFeed) {
			n = max(n, m.Index+len(m.Entries))
		}
		return n
	}
	w := site0(t, conf)
	w.ask(0, api.Ask{Kind: api.AskReign})
	w.letters = nil
	grant := pack(t, api.Mail{Kind: api.MailGrant, Epoch: 1})
	for range 3 {
		w.hear(w.nodes[0].Take(api.Letter{From: 6, To: 0, Data: grant}))
		w.tick(0)
	}
	if n := entries(w.letters); n != 2 {
		t.Fatal("the reign is proposed once", n)
	}
	w = both(t, conf)
	ship := kindsOf(t, func() []api.Letter { w.tick(0); return w.letters }(), api.MailShip)[0]
	w.letters = nil
	for range 3 {
		w.hear(w.nodes[3].Take(api.Letter{From: 0, To: 3, Data: pack(t, ship)}))
		w.tick(3)
	}
	if n := entries(w.letters); n != 2 {
		t.Fatal("what was shipped is proposed once", n)
	}
}

// TestVaultRefuses lets a node lead again and again, alone: what it proposed is held, and fills the vault.
func TestVaultRefuses(t *testing.T) { // P23.2
	c := conf
	c.Quota = 1
	w := withReign(t, c)
	n := 0
	for term := 10; ; term += 10 {
		for range 8 {
			b := make([]byte, 512)
			for k := range b {
				b[k] = byte(k / 64)
			}
			for k := 0; k < 512; k += 64 {
				b[k+1], b[k+2] = byte(n), byte(n>>8)
			}
			n++
			if x, ok := w.reply(w.ask(0, put(n, "a", string(b)))); ok {
				if n != 129 || x.Err != api.ErrQuota {
					t.Fatal(n, x)
				}
				return
			}
		}
		w.letters = nil
		w.nodes[0].Take(api.Letter{From: 1, To: 0, Data: pack(t, api.Mail{Kind: api.MailFed, Term: term})})
		for !w.nodes[0].Leads() {
			_, l := w.nodes[0].Tick(0)
			if asks := kindsOf(t, l, api.MailAsk); len(asks) > 0 {
				w.nodes[0].Take(api.Letter{From: 1, To: 0, Data: pack(t, api.Mail{Kind: api.MailVote, Term: asks[0].Term, Good: true})})
			}
		}
	}
}

func TestHolds(t *testing.T) { // P23.1, P23.4
	w := withReign(t, conf)
	n := w.ask(0, put(1, "a", "held"))
	w.letters = nil
	w.tick(0)
	if len(w.drives[0].Names("b.")) != 1 {
		t.Fatal("what the next entry needs is held")
	}
	w.letters = nil
	w.drives[0].Crash()
	w.open(0)
	for range 3 {
		w.nodes[0].Tick(0)
	}
	if len(w.drives[0].Names("b.")) != 1 {
		t.Fatal("what an entry that isn't done yet needs is held")
	}
	if _, ok := w.reply(n); ok {
		t.Fatal("it forgot who asked")
	}
}

func TestNilNode(t *testing.T) { // P23.5
	var n *node.Node
	x, l := n.Ask(1, api.Ask{Kind: 1})
	y, k := n.Take(api.Letter{})
	z, m := n.Tick(0)
	if len(x)+len(l)+len(y)+len(k)+len(z)+len(m) != 0 || n.Ledger() != nil || n.Applied() != 0 || n.Leads() || n.Whole().At != (api.Spot{}) || n.Missing() != nil || n.Waits() != 0 {
		t.Fatal("a nil node")
	}
	w := withReign(t, conf)
	w.nodes[0].Ledger().Apply(api.Command{Kind: api.CmdReign, Epoch: 9})
	if w.nodes[0].Ledger().Fence() != 1 {
		t.Fatal("Ledger is a copy")
	}
}

// TestReportsAreForgotten lets a leader lead anew: what its mates reported ahead of that counts no more.
func TestReportsAreForgotten(t *testing.T) { // P23.3
	w := withReign(t, conf)
	whole := pack(t, api.Mail{Kind: api.MailWhole, At: api.Spot{N: 2, Epoch: 1}})
	n := w.ask(0, put(1, "a", "x"))
	w.come(func(l api.Letter) bool { m, _ := mail.Parse(l.Data); return m.Kind == api.MailWhole })
	w.hear(w.nodes[0].Take(api.Letter{From: 1, To: 0, Data: whole}))
	w.answered(n, api.Reply{At: api.Spot{N: 2, Epoch: 1}})
	w.nodes[0].Take(api.Letter{From: 2, To: 0, Data: pack(t, api.Mail{Kind: api.MailFed, Term: 50})})
	for !w.nodes[0].Leads() {
		_, l := w.nodes[0].Tick(0)
		if asks := kindsOf(t, l, api.MailAsk); len(asks) > 0 {
			w.hear(w.nodes[0].Take(api.Letter{From: 1, To: 0, Data: pack(t, api.Mail{Kind: api.MailVote, Term: asks[0].Term, Good: true})}))
		}
	}
	w.come(nil)
	n = w.ask(0, put(1, "a", "x"))
	w.come(nil)
	if _, ok := w.reply(n); ok || w.nodes[0].Waits() != 1 {
		t.Fatal("nobody has reported since")
	}
	w.hear(w.nodes[0].Take(api.Letter{From: 1, To: 0, Data: whole}))
	w.answered(n, api.Reply{At: api.Spot{N: 2, Epoch: 1}})
}

// TestNewLane lets a site reign once more: what it ships then is of the new epoch.
func TestNewLane(t *testing.T) { // P23.3, P23.4
	w := withReign(t, conf)
	w.hear(w.nodes[0].Take(api.Letter{From: 6, To: 0, Data: pack(t, api.Mail{Kind: api.MailGrant, Epoch: 3})}))
	w.come(nil)
	w.tick(0)
	offers := kindsOf(t, w.letters, api.MailShip)
	if len(offers) != 3 {
		t.Fatal(offers)
	}
	for _, m := range offers {
		if m.Epoch != 3 || m.Site != 0 || m.At != (api.Spot{N: 2, Epoch: 3}) || len(m.Ops) != 0 {
			t.Fatal(m)
		}
	}
}
