package mail_test

import (
	"math"
	"reflect"
	"strings"
	"testing"

	"redoubt/api"
	"redoubt/deed"
	"redoubt/frame"
	"redoubt/mail"
	"redoubt/pack"
)

func ops(n int) []api.Op {
	list := []api.Op{{N: 5, Epoch: 4, Kind: api.OpReign, Site: 1}}
	for len(list) < n {
		list = append(list, api.Op{N: 5 + len(list), Epoch: 4, Kind: api.OpDrop, Site: 1, Seq: 1, Name: "x"})
	}
	return list[:n]
}

func hashes(n int) []string {
	var list []string
	for i := range n {
		list = append(list, strings.Repeat(string([]byte{byte(i)}), 32))
	}
	return list
}

func entries(n int) []api.Entry {
	var list []api.Entry
	for i := range n {
		list = append(list, api.Entry{Term: 1 << 40 >> i, Data: strings.Repeat("d", i*1000)})
	}
	return list
}

const top = 1 << 40

// right are mails of each kind, at the ends of what may be.
func right() []api.Mail {
	return []api.Mail{
		{Kind: api.MailAsk, Term: 1}, {Kind: api.MailAsk, Term: top, Index: top, Prev: top},
		{Kind: api.MailVote, Term: 3, Good: true}, {Kind: api.MailVote, Term: top},
		{Kind: api.MailFeed, Term: 1}, {Kind: api.MailFeed, Term: top, Index: top, Prev: top, Commit: top, Entries: entries(8)}, {Kind: api.MailFeed, Term: 1, Entries: []api.Entry{{Term: 9, Data: strings.Repeat("x", 8000)}, {Term: 1}}},
		{Kind: api.MailFed, Term: 1}, {Kind: api.MailFed, Term: top, Good: true, Index: top},
		{Kind: api.MailLay, Term: 1}, {Kind: api.MailLay, Term: top, Index: top, Prev: top, Data: strings.Repeat("s", 100000)},
		{Kind: api.MailWhole}, {Kind: api.MailWhole, At: api.Spot{N: 80, Epoch: 16}, Holes: []int{1, 2, 79, 80}}, {Kind: api.MailWhole, At: api.Spot{N: 1, Epoch: 1}},
		{Kind: api.MailWant, Hashes: hashes(1)}, {Kind: api.MailWant, Hashes: hashes(4)},
		{Kind: api.MailBlob, Data: "x"}, {Kind: api.MailBlob, Data: strings.Repeat("x", 64)},
		{Kind: api.MailShip, Epoch: 1}, {Kind: api.MailShip, Epoch: 16, Site: 1, At: api.Spot{N: 4, Epoch: 3}, Ops: ops(8)}, {Kind: api.MailShip, Epoch: 4, At: api.Spot{N: 4, Epoch: 3}, Ops: ops(1)}, {Kind: api.MailShip, Epoch: 16, At: api.Spot{N: 80, Epoch: 16}},
		{Kind: api.MailShipped, Epoch: 1}, {Kind: api.MailShipped, Epoch: 16, Good: true, At: api.Spot{N: 80, Epoch: 16}, Whole: api.Spot{N: 3, Epoch: 1}, Holes: []int{1, 3}}, {Kind: api.MailShipped, Epoch: 2, At: api.Spot{N: 80, Epoch: 16}},
		{Kind: api.MailClaim}, {Kind: api.MailClaim, Site: 1}, {Kind: api.MailClaim, Epoch: 16, Site: 1},
		{Kind: api.MailGrant}, {Kind: api.MailGrant, Epoch: 16, Site: 1}, {Kind: api.MailGrant, Epoch: 1},
	}
}

// wrong are right mails, each with one thing that may not be.
func wrong() []api.Mail {
	var list []api.Mail
	turn := func(m api.Mail, turns ...func(m *api.Mail)) {
		for _, t := range turns {
			x := m
			t(&x)
			list = append(list, x)
		}
	}
	low := func(n int) int {
		if n == 0 {
			return -1
		}
		return 0
	}
	for _, m := range right() {
		k := m.Kind
		poll := k <= api.MailLay
		if poll {
			turn(m, func(m *api.Mail) { m.Term = 0 }, func(m *api.Mail) { m.Term = -1 }, func(m *api.Mail) { m.Term = top + 1 })
		} else {
			turn(m, func(m *api.Mail) { m.Term = 1 })
		}
		if k == api.MailAsk || k == api.MailFeed || k == api.MailFed || k == api.MailLay {
			turn(m, func(m *api.Mail) { m.Index = -1 }, func(m *api.Mail) { m.Index = top + 1 })
		} else {
			turn(m, func(m *api.Mail) { m.Index = 1 })
		}
		if k == api.MailAsk || k == api.MailFeed || k == api.MailLay {
			turn(m, func(m *api.Mail) { m.Prev = -1 }, func(m *api.Mail) { m.Prev = top + 1 })
		} else {
			turn(m, func(m *api.Mail) { m.Prev = 1 })
		}
		if k == api.MailFeed {
			turn(m, func(m *api.Mail) { m.Commit = -1 }, func(m *api.Mail) { m.Commit = top + 1 }, func(m *api.Mail) { m.Entries = entries(9) }, func(m *api.Mail) { m.Entries = []api.Entry{{Term: 0}} }, func(m *api.Mail) { m.Entries = []api.Entry{{Term: top + 1}} }, func(m *api.Mail) { m.Entries = []api.Entry{{Term: 1, Data: strings.Repeat("x", 8001)}} })
		} else {
			turn(m, func(m *api.Mail) { m.Commit = 1 }, func(m *api.Mail) { m.Entries = entries(1) })
		}
		if k != api.MailVote && k != api.MailFed && k != api.MailShipped {
			turn(m, func(m *api.Mail) { m.Good = true })
		}
		switch k {
		case api.MailLay:
			turn(m, func(m *api.Mail) { m.Data = strings.Repeat("s", 100001) })
		case api.MailBlob:
			turn(m, func(m *api.Mail) { m.Data = "" }, func(m *api.Mail) { m.Data = strings.Repeat("s", 65) })
		default:
			turn(m, func(m *api.Mail) { m.Data = "x" })
		}
		if k == api.MailWant {
			turn(m, func(m *api.Mail) { m.Hashes = nil }, func(m *api.Mail) { m.Hashes = hashes(5) }, func(m *api.Mail) { m.Hashes = []string{"short"} }, func(m *api.Mail) { m.Hashes = []string{strings.Repeat("x", 33)} })
		} else {
			turn(m, func(m *api.Mail) { m.Hashes = hashes(1) })
		}
		switch k {
		case api.MailShip, api.MailShipped:
			turn(m, func(m *api.Mail) { m.Epoch = 0 }, func(m *api.Mail) { m.Epoch = 17 }, func(m *api.Mail) { m.Epoch = -1 })
		case api.MailClaim, api.MailGrant:
			turn(m, func(m *api.Mail) { m.Epoch = -1 }, func(m *api.Mail) { m.Epoch = 17 })
		default:
			turn(m, func(m *api.Mail) { m.Epoch = 1 })
		}
		if k == api.MailShip || k == api.MailClaim || k == api.MailGrant {
			turn(m, func(m *api.Mail) { m.Site = 2 }, func(m *api.Mail) { m.Site = -1 })
		} else {
			turn(m, func(m *api.Mail) { m.Site = 1 })
		}
		badPlaces := func(get func(m *api.Mail) *api.Spot) {
			for _, at := range []api.Spot{{N: 0, Epoch: 1}, {N: 1, Epoch: 0}, {N: 81, Epoch: 1}, {N: 1, Epoch: 17}, {N: -1, Epoch: 1}, {N: 1, Epoch: -1}, {N: math.MinInt, Epoch: math.MinInt}} {
				turn(m, func(m *api.Mail) { *get(m) = at })
			}
		}
		badHoles := func(n int) {
			for _, holes := range [][]int{{low(n)}, {n + 1}, {2, 1}, {1, 1}, {-1, 1}, {math.MaxInt}} {
				turn(m, func(m *api.Mail) { m.Holes = holes })
			}
		}
		at := func(m *api.Mail) *api.Spot { return &m.At }
		whole := func(m *api.Mail) *api.Spot { return &m.Whole }
		switch k {
		case api.MailWhole:
			badPlaces(at)
			badHoles(m.At.N)
		case api.MailShip:
			badPlaces(at)
		case api.MailShipped:
			badPlaces(at)
			badPlaces(whole)
			badHoles(m.Whole.N)
		default:
			turn(m, func(m *api.Mail) { m.At = api.Spot{N: 1, Epoch: 1} })
		}
		if k != api.MailShipped {
			turn(m, func(m *api.Mail) { m.Whole = api.Spot{N: 1, Epoch: 1} })
			if k != api.MailWhole {
				turn(m, func(m *api.Mail) { m.Holes = []int{1} })
			}
		}
		if k != api.MailShip {
			turn(m, func(m *api.Mail) { m.Ops = ops(1) })
		}
	}
	ship := api.Mail{Kind: api.MailShip, Epoch: 4, Site: 1, At: api.Spot{N: 4, Epoch: 3}, Ops: ops(3)}
	turn(ship, func(m *api.Mail) { m.Ops = ops(9) }, func(m *api.Mail) { m.Ops = ops(3)[1:] }, func(m *api.Mail) { m.Epoch = 3 }, func(m *api.Mail) { m.At = api.Spot{N: 4, Epoch: 5}; m.Ops = nil }, func(m *api.Mail) { m.Ops = []api.Op{{}} })
	return append(list, api.Mail{}, api.Mail{Kind: 13, Term: 1}, api.Mail{Kind: -1}, api.Mail{Kind: api.MailGrant, Site: 1})
}

func TestCheck(t *testing.T) { // P15.1
	for i, m := range right() {
		if mail.Check(m) != api.OK {
			t.Fatal(i, m.Kind)
		}
	}
	for i, m := range wrong() {
		if mail.Check(m) != api.ErrForm {
			t.Fatalf("%d: %.300v", i, m)
		}
		if s, e := mail.Pack(m); s != "" || e != api.ErrForm {
			t.Fatal(i, m.Kind)
		}
	}
}

// body is a mail's bytes, as the words say.
func body(m api.Mail) string {
	good := 0
	if m.Good {
		good = 1
	}
	s := pack.Nums(m.Kind, m.Term, m.Index, m.Prev, m.Commit, good, m.Epoch, m.Site, m.At.N, m.At.Epoch, m.Whole.N, m.Whole.Epoch) + pack.Text(m.Data)
	s += pack.Nums(len(m.Hashes))
	for _, h := range m.Hashes {
		s += pack.Text(h)
	}
	s += pack.Nums(len(m.Holes))
	for _, h := range m.Holes {
		s += pack.Nums(h)
	}
	s += pack.Nums(len(m.Entries))
	for _, x := range m.Entries {
		s += pack.Nums(x.Term) + pack.Text(x.Data)
	}
	return s + deed.PackOps(m.Ops...)
}

func seal(payload string) string {
	s, _ := frame.Seal(payload)
	return s
}

func TestPack(t *testing.T) { // P15.1
	if s, e := mail.Pack(api.Mail{Kind: api.MailVote, Term: 3, Good: true}); e != api.OK || s != seal("\x04\x06\x00\x00\x00\x02\x00\x00\x00\x00\x00\x00\x00\x00\x00\x00\x00") {
		t.Fatalf("%x", s)
	}
	for i, m := range right() {
		if s, e := mail.Pack(m); e != api.OK || s != seal(body(m)) {
			t.Fatal(i, e)
		}
	}
}

func TestParse(t *testing.T) { // P15.2, P15.3
	none := func(s string) {
		t.Helper()
		if m, e := mail.Parse(s); e != api.ErrForm || !reflect.DeepEqual(m, api.Mail{}) {
			t.Fatalf("%.60x: %v", s, e)
		}
	}
	for i, m := range right() {
		s, _ := mail.Pack(m)
		got, e := mail.Parse(s)
		if e != api.OK || !reflect.DeepEqual(got, m) {
			t.Fatal(i, e, got)
		}
		none(s + "\x00")
		none(s + s)
		none("\x00" + s)
		step := 1 + len(s)/300
		for cut := 0; cut < len(s); cut += step {
			none(s[:cut])
		}
		head := len(pack.Nums(len(body(m))))
		for bit := 8 * head; bit < 8*len(s); bit += step {
			b := []byte(s)
			b[bit/8] ^= 1 << (bit % 8)
			none(string(b))
		}
		none(seal(body(m) + "\x00"))
		none(seal(body(m)[:len(body(m))-1]))
	}
	for _, m := range wrong() {
		none(seal(body(m)))
	}
	vote := func(good int) string {
		return seal(pack.Nums(api.MailVote, 3, 0, 0, 0, good, 0, 0, 0, 0, 0, 0, 0, 0, 0, 0, 0))
	}
	if m, e := mail.Parse(vote(1)); e != api.OK || !m.Good {
		t.Fatal(e)
	}
	none(vote(2))
	none(vote(-1))
	none("")
	for _, at := range []int{12, 13, 14, 15, 16} {
		nums := []int{api.MailVote, 3, 0, 0, 0, 1, 0, 0, 0, 0, 0, 0, 0, 0, 0, 0, 0}
		for _, n := range []int{-1, 1, math.MaxInt} {
			nums[at] = n
			none(seal(pack.Nums(nums...)))
		}
	}
}
