package poll_test

import (
	"fmt"
	"math"
	"math/rand"
	"reflect"
	"slices"
	"strings"
	"testing"

	"redoubt/api"
	"redoubt/poll"
)

var conf = api.Conf{Base: 2, Spread: 3}

func begin(t *testing.T, me int, k api.Kept) *poll.Poll {
	t.Helper()
	p, e := poll.New(conf, me, k)
	if e != api.OK {
		t.Fatal(e)
	}
	return p
}

func fresh() api.Kept { return api.Kept{Vote: -1} }

func entries(terms ...int) []api.Entry {
	var list []api.Entry
	for i, term := range terms {
		list = append(list, api.Entry{Term: term, Data: fmt.Sprint("e", i, ".", term)})
	}
	return list
}

// norm makes empty lists nil, so that answers may be compared.
func norm(m api.Mail) api.Mail {
	if len(m.Entries) == 0 {
		m.Entries = nil
	}
	if len(m.Hashes) == 0 {
		m.Hashes = nil
	}
	if len(m.Holes) == 0 {
		m.Holes = nil
	}
	if len(m.Ops) == 0 {
		m.Ops = nil
	}
	return m
}

func says(t *testing.T, got []api.Send, want ...api.Send) {
	t.Helper()
	if len(got) != len(want) {
		t.Fatalf("says %+v", got)
	}
	for i := range got {
		if got[i].To != want[i].To || !reflect.DeepEqual(norm(got[i].Mail), norm(want[i].Mail)) {
			t.Fatalf("says %+v, not %+v", got[i], want[i])
		}
	}
}

func send(to int, m api.Mail) api.Send { return api.Send{To: to, Mail: m} }

func stands(t *testing.T, p *poll.Poll, role, lead, commit, last int) {
	t.Helper()
	if p.Role() != role || p.Lead() != lead || p.Commit() != commit || p.Last() != last {
		t.Fatalf("role %d, lead %d, commit %d, last %d", p.Role(), p.Lead(), p.Commit(), p.Last())
	}
}

func keeps(t *testing.T, p *poll.Poll, k api.Kept) {
	t.Helper()
	got := p.Kept()
	if len(got.Entries) == 0 {
		got.Entries = nil
	}
	if len(k.Entries) == 0 {
		k.Entries = nil
	}
	if !reflect.DeepEqual(got, k) {
		t.Fatalf("keeps %+v, not %+v", got, k)
	}
}

func saves(t *testing.T, p *poll.Poll, s api.Save, any bool) {
	t.Helper()
	got, ok := p.Save()
	if len(got.Entries) == 0 {
		got.Entries = nil
	}
	if len(s.Entries) == 0 {
		s.Entries = nil
	}
	if ok != any || !reflect.DeepEqual(got, s) {
		t.Fatalf("saves %+v %v, not %+v", got, ok, s)
	}
	if got, ok := p.Save(); ok || !reflect.DeepEqual(got, api.Save{}) {
		t.Fatal("asked again at once", got)
	}
}

func TestNew(t *testing.T) { // P13.1
	for _, c := range []api.Conf{{Base: 1, Spread: 1}, {Base: 65, Spread: 1}, {Base: 2}, {Base: 2, Spread: 65}, {Base: -2, Spread: 3}} {
		if p, e := poll.New(c, 0, fresh()); p != nil || e != api.ErrArg {
			t.Fatal(c, e)
		}
	}
	for _, me := range []int{-1, 3, math.MinInt} {
		if p, e := poll.New(conf, me, api.Kept{Vote: 7}); p != nil || e != api.ErrArg {
			t.Fatal(me, e)
		}
	}
	long := strings.Repeat("x", 8001)
	for i, k := range []api.Kept{
		{Term: -1}, {Term: 1<<40 + 1}, {Vote: -2}, {Vote: 3}, {Term: 1, Base: -1}, {Term: 1, Base: -1, BaseTerm: 1}, {Term: 1, Base: 1<<40 + 1, BaseTerm: 1},
		{Term: 1, Base: 1}, {Term: 1, BaseTerm: 1}, {Term: 1, Base: 1, BaseTerm: -1}, {Term: 1, Base: 1, BaseTerm: 2},
		{Term: 5, Entries: entries(0)}, {Term: 5, Entries: entries(-1)}, {Term: 5, Entries: entries(2, 1)}, {Term: 5, Entries: entries(6)}, {Term: 5, Base: 3, BaseTerm: 3, Entries: entries(2)}, {Term: 5, Entries: []api.Entry{{Term: 1, Data: long}}},
		{Snap: strings.Repeat("s", 100001)},
	} {
		if p, e := poll.New(conf, 0, k); p != nil || e != api.ErrForm {
			t.Fatal(i, e)
		}
	}
	for _, k := range []api.Kept{fresh(), {Term: 1 << 40, Vote: 2, Base: 1 << 40, BaseTerm: 1 << 40, Snap: strings.Repeat("s", 100000)}, {Term: 5, Base: 3, BaseTerm: 3, Entries: entries(3, 3, 4, 5)}, {Term: 5, Vote: 1, Entries: []api.Entry{{Term: 1, Data: long[:8000]}}}} {
		p := begin(t, 1, k)
		keeps(t, p, k)
		stands(t, p, api.Follower, -1, k.Base, k.Base+len(k.Entries))
		saves(t, p, api.Save{}, false)
		for _, n := range []int{k.Base, k.Base - 1, p.Last() + 1, -1, math.MaxInt} {
			if x, ok := p.Entry(n); ok || x != (api.Entry{}) {
				t.Fatal(n, x)
			}
		}
		for i, want := range k.Entries {
			if x, ok := p.Entry(k.Base + 1 + i); !ok || x != want {
				t.Fatal(i, x)
			}
		}
	}
	for c := range 3 {
		if p, e := poll.New([]api.Conf{{Base: 64, Spread: 64}, {Base: 2, Spread: 1}, {Base: 64, Spread: 1}}[c], 2, fresh()); p == nil || e != api.OK {
			t.Fatal(c, e)
		}
	}
}

func TestExample(t *testing.T) { // P13.2, P13.3
	p := begin(t, 0, fresh())
	says(t, p.Tick(0))
	says(t, p.Tick(0), send(1, api.Mail{Kind: api.MailAsk, Term: 1}), send(2, api.Mail{Kind: api.MailAsk, Term: 1}))
	stands(t, p, api.Candidate, -1, 0, 0)
	saves(t, p, api.Save{Term: 1, Vote: 0}, true)
	one := begin(t, 1, fresh())
	says(t, one.Take(0, api.Mail{Kind: api.MailAsk, Term: 1}), send(0, api.Mail{Kind: api.MailVote, Term: 1, Good: true}))
	saves(t, one, api.Save{Term: 1, Vote: 0}, true)
	feed := api.Mail{Kind: api.MailFeed, Term: 1, Entries: []api.Entry{{Term: 1}}}
	says(t, p.Take(1, api.Mail{Kind: api.MailVote, Term: 1, Good: true}), send(1, feed), send(2, feed))
	stands(t, p, api.Leader, 0, 0, 1)
	saves(t, p, api.Save{Term: 1, Vote: 0, From: 1, Entries: []api.Entry{{Term: 1}}}, true)
	says(t, one.Take(0, feed), send(0, api.Mail{Kind: api.MailFed, Term: 1, Good: true, Index: 1}))
	stands(t, one, api.Follower, 0, 0, 1)
	saves(t, one, api.Save{Term: 1, Vote: 0, From: 1, Entries: []api.Entry{{Term: 1}}}, true)
	says(t, p.Take(1, api.Mail{Kind: api.MailFed, Term: 1, Good: true, Index: 1}))
	stands(t, p, api.Leader, 0, 1, 1)
	empty := api.Mail{Kind: api.MailFeed, Term: 1, Index: 1, Prev: 1, Commit: 1}
	full := api.Mail{Kind: api.MailFeed, Term: 1, Commit: 1, Entries: []api.Entry{{Term: 1}}}
	says(t, p.Tick(9), send(1, empty), send(2, full))
	says(t, one.Take(0, empty), send(0, api.Mail{Kind: api.MailFed, Term: 1, Good: true, Index: 1}))
	stands(t, one, api.Follower, 0, 1, 1)
	saves(t, one, api.Save{}, false)
}

func TestWaits(t *testing.T) { // P13.2
	c := api.Conf{Base: 3, Spread: 4}
	for draw, rest := range map[int]int{0: 0, 1: 1, 3: 3, 4: 0, 7: 3, -1: 3, -4: 0, -5: 3, math.MaxInt: 3, math.MinInt: 0, math.MinInt + 1: 1} {
		p, _ := poll.New(c, 2, fresh())
		says(t, p.Tick(draw))
		says(t, p.Tick(draw))
		if len(p.Tick(draw)) != 2 {
			t.Fatal("the first wait is Base")
		}
		for i := range 3 + rest {
			got := p.Tick(draw)
			if (len(got) == 2) != (i == 2+rest) {
				t.Fatal(draw, i, got)
			}
		}
		if p.Kept().Term != 2 || p.Kept().Vote != 2 || p.Role() != api.Candidate {
			t.Fatal(p.Kept())
		}
	}
	p := begin(t, 0, api.Kept{Term: 1 << 40, Vote: -1})
	for range 10 {
		says(t, p.Tick(0))
	}
	stands(t, p, api.Follower, -1, 0, 0)
	saves(t, p, api.Save{}, false)
	p = begin(t, 2, api.Kept{Term: 4, Vote: 1, Base: 2, BaseTerm: 1, Entries: entries(3, 4)})
	p.Tick(0)
	ask := api.Mail{Kind: api.MailAsk, Term: 5, Index: 4, Prev: 4}
	says(t, p.Tick(0), send(0, ask), send(1, ask))
	p = begin(t, 1, api.Kept{Term: 4, Vote: 1, Base: 2, BaseTerm: 1})
	p.Tick(0)
	ask = api.Mail{Kind: api.MailAsk, Term: 5, Index: 2, Prev: 1}
	says(t, p.Tick(0), send(0, ask), send(2, ask))
}

// lead makes node 0 the leader of term 5, with these terms ahead of its own entry.
func lead(t *testing.T, terms ...int) *poll.Poll {
	t.Helper()
	p := begin(t, 0, api.Kept{Term: 4, Vote: -1, Entries: entries(terms...)})
	p.Tick(0)
	p.Tick(0)
	p.Take(2, api.Mail{Kind: api.MailVote, Term: 5, Good: true})
	stands(t, p, api.Leader, 0, 0, len(terms)+1)
	p.Save()
	return p
}

func TestPropose(t *testing.T) { // P13.2
	p := begin(t, 0, fresh())
	if n, s, e := p.Propose("x"); n != 0 || s != nil || e != api.ErrFollower {
		t.Fatal(n, s, e)
	}
	p.Tick(0)
	p.Tick(0)
	if n, s, e := p.Propose(strings.Repeat("x", 9000)); n != 0 || s != nil || e != api.ErrFollower {
		t.Fatal(n, s, e)
	}
	p = lead(t, 1, 2)
	if n, s, e := p.Propose(strings.Repeat("x", 8001)); n != 0 || s != nil || e != api.ErrLong || p.Last() != 3 {
		t.Fatal(n, s, e)
	}
	n, s, e := p.Propose(strings.Repeat("x", 8000))
	if n != 4 || e != api.OK {
		t.Fatal(n, e)
	}
	feed := api.Mail{Kind: api.MailFeed, Term: 5, Index: 2, Prev: 2, Entries: []api.Entry{{Term: 5}, {Term: 5, Data: strings.Repeat("x", 8000)}}}
	says(t, s, send(1, feed), send(2, feed))
	saves(t, p, api.Save{Term: 5, Vote: 0, From: 4, Entries: []api.Entry{feed.Entries[1]}}, true)
	for i := range 12 {
		_, s, _ = p.Propose(fmt.Sprint(i))
	}
	if len(s) != 2 || len(s[0].Mail.Entries) != 8 || s[0].Mail.Index != 2 || s[0].Mail.Entries[7].Data != "5" {
		t.Fatal(s)
	}
	if p.Last() != 16 {
		t.Fatal(p.Last())
	}
}

func TestLetGo(t *testing.T) { // P13.3
	long := strings.Repeat("x", 8001)
	right := []api.Mail{{Kind: api.MailAsk, Term: 9, Index: 3, Prev: 3}, {Kind: api.MailVote, Term: 9, Good: true}, {Kind: api.MailFeed, Term: 9, Index: 1, Prev: 1, Entries: entries(2, 3)}, {Kind: api.MailFed, Term: 9, Good: true}, {Kind: api.MailLay, Term: 9, Index: 7, Prev: 3, Data: "s"}}
	turns := []func(m *api.Mail){
		func(m *api.Mail) { m.Kind = 0 }, func(m *api.Mail) { m.Kind = 6 }, func(m *api.Mail) { m.Kind = -1 },
		func(m *api.Mail) { m.Term = 0 }, func(m *api.Mail) { m.Term = 1<<40 + 1 }, func(m *api.Mail) { m.Term = -1 },
		func(m *api.Mail) { m.Index = -1 }, func(m *api.Mail) { m.Index = 1<<40 + 1 }, func(m *api.Mail) { m.Prev = -1 }, func(m *api.Mail) { m.Prev = 1<<40 + 1 },
		func(m *api.Mail) { m.Commit = -1 }, func(m *api.Mail) { m.Commit = 1<<40 + 1 },
		func(m *api.Mail) { m.Entries = entries(3, 3, 3, 3, 3, 3, 3, 3, 3) }, func(m *api.Mail) { m.Entries = entries(5, 4) }, func(m *api.Mail) { m.Prev = 3; m.Entries = entries(2) },
		func(m *api.Mail) { m.Prev = 0; m.Entries = entries(0); m.Kind = api.MailFeed }, func(m *api.Mail) { m.Entries = entries(10) }, func(m *api.Mail) { m.Entries = []api.Entry{{Term: 9, Data: long}} },
		func(m *api.Mail) { m.Data = strings.Repeat("x", 100001) },
	}
	try := func(from int, m api.Mail) {
		t.Helper()
		for _, role := range []int{api.Follower, api.Candidate, api.Leader} {
			p := begin(t, 0, api.Kept{Term: 4, Vote: 1, Entries: entries(1, 2)})
			if role > api.Follower {
				p.Tick(0)
				p.Tick(0)
			}
			if role == api.Leader {
				p.Take(1, api.Mail{Kind: api.MailVote, Term: 5, Good: true})
			}
			p.Save()
			k, last, lead := p.Kept(), p.Last(), p.Lead()
			says(t, p.Take(from, m))
			keeps(t, p, k)
			stands(t, p, role, lead, 0, last)
			saves(t, p, api.Save{}, false)
		}
	}
	for _, m := range right {
		for _, turn := range turns {
			x := m
			turn(&x)
			try(1, x)
		}
		for _, from := range []int{0, -1, 3, math.MaxInt} {
			try(from, m)
		}
	}
	for _, m := range []api.Mail{{Kind: api.MailLay, Term: 9, Prev: 1}, {Kind: api.MailLay, Term: 9, Index: 1}, {Kind: api.MailLay, Term: 9, Index: 7, Prev: 10}} {
		try(1, m)
	}
}

func TestMayCome(t *testing.T) { // P13.3
	long := strings.Repeat("x", 8000)
	eight := entries(1, 1, 2, 2, 3, 3, 4, 4)
	eight[7].Data = long
	p := begin(t, 0, fresh())
	says(t, p.Take(1, api.Mail{Kind: api.MailFeed, Term: 4, Entries: eight}), send(1, api.Mail{Kind: api.MailFed, Term: 4, Good: true, Index: 8}))
	says(t, p.Take(2, api.Mail{Kind: api.MailLay, Term: 4, Index: 1 << 40, Prev: 4, Data: strings.Repeat("s", 100000)}), send(2, api.Mail{Kind: api.MailFed, Term: 4, Good: true, Index: 1 << 40}))
	if p.Lead() != 2 || p.Last() != 1<<40 {
		t.Fatal(p.Lead(), p.Last())
	}
	says(t, p.Take(2, api.Mail{Kind: api.MailAsk, Term: 1 << 40, Index: 1 << 40, Prev: 1 << 40, Commit: 1 << 40}), send(2, api.Mail{Kind: api.MailVote, Term: 1 << 40, Good: true}))
}

func TestTerms(t *testing.T) { // P13.3
	p := lead(t, 1, 2)
	says(t, p.Take(1, api.Mail{Kind: api.MailFed, Term: 7}))
	stands(t, p, api.Follower, -1, 0, 3)
	saves(t, p, api.Save{Term: 7, Vote: -1}, true)
	says(t, p.Take(1, api.Mail{Kind: api.MailAsk, Term: 6, Index: 9, Prev: 6}), send(1, api.Mail{Kind: api.MailVote, Term: 7}))
	says(t, p.Take(1, api.Mail{Kind: api.MailFeed, Term: 6, Index: 1, Prev: 1, Entries: entries(6)}), send(1, api.Mail{Kind: api.MailFed, Term: 7}))
	says(t, p.Take(2, api.Mail{Kind: api.MailLay, Term: 6, Index: 9, Prev: 6}), send(2, api.Mail{Kind: api.MailFed, Term: 7}))
	says(t, p.Take(1, api.Mail{Kind: api.MailVote, Term: 6, Good: true}))
	says(t, p.Take(1, api.Mail{Kind: api.MailFed, Term: 6, Good: true, Index: 1}))
	stands(t, p, api.Follower, -1, 0, 3)
	saves(t, p, api.Save{}, false)
	// a term goes on while the clock does
	p = begin(t, 0, fresh())
	p.Tick(0)
	says(t, p.Take(1, api.Mail{Kind: api.MailFed, Term: 3}))
	if len(p.Tick(0)) != 2 || p.Kept().Term != 4 {
		t.Fatal("the clock wasn't to begin anew")
	}
}

func TestVotes(t *testing.T) { // P13.3
	for _, c := range []struct {
		vote, index, prev int
		good              bool
	}{{-1, 2, 2, true}, {1, 2, 2, true}, {2, 2, 2, false}, {0, 2, 2, false}, {-1, 1, 2, false}, {-1, 3, 2, true}, {-1, 9, 1, false}, {-1, 0, 3, true}, {-1, 1, 3, true}} {
		p := begin(t, 0, api.Kept{Term: 4, Vote: c.vote, Entries: entries(1, 2)})
		p.Tick(0)
		says(t, p.Take(1, api.Mail{Kind: api.MailAsk, Term: 4, Index: c.index, Prev: c.prev}), send(1, api.Mail{Kind: api.MailVote, Term: 4, Good: c.good}))
		got := p.Tick(0)
		if c.good {
			says(t, got) // its clock began anew
			saves(t, p, api.Save{Term: 4, Vote: 1}, true)
		} else if len(got) != 2 {
			t.Fatal("its clock goes on")
		}
	}
	p := begin(t, 0, api.Kept{Term: 4, Vote: 2, Entries: entries(1, 2)})
	says(t, p.Take(1, api.Mail{Kind: api.MailAsk, Term: 5, Index: 2, Prev: 2}), send(1, api.Mail{Kind: api.MailVote, Term: 5, Good: true}))
	says(t, p.Take(2, api.Mail{Kind: api.MailAsk, Term: 5, Index: 2, Prev: 2}), send(2, api.Mail{Kind: api.MailVote, Term: 5}))
	says(t, p.Take(1, api.Mail{Kind: api.MailVote, Term: 5, Good: true})) // it is no candidate
	p = begin(t, 0, fresh())
	p.Tick(0)
	p.Tick(0)
	says(t, p.Take(1, api.Mail{Kind: api.MailVote, Term: 1}))
	stands(t, p, api.Candidate, -1, 0, 0)
	if len(p.Take(2, api.Mail{Kind: api.MailVote, Term: 1, Good: true})) != 2 {
		t.Fatal("it leads")
	}
	says(t, p.Take(1, api.Mail{Kind: api.MailVote, Term: 1, Good: true}))
	stands(t, p, api.Leader, 0, 0, 1)
}

func TestFeed(t *testing.T) { // P13.3, P13.5
	k := api.Kept{Term: 4, Vote: -1, Base: 2, BaseTerm: 1, Snap: "s", Entries: entries(1, 2, 2, 3)}
	take := func(p *poll.Poll, index, prev, commit int, list ...api.Entry) []api.Send {
		return p.Take(1, api.Mail{Kind: api.MailFeed, Term: 4, Index: index, Prev: prev, Commit: commit, Entries: list})
	}
	fed := func(good bool, index int) api.Send {
		return send(1, api.Mail{Kind: api.MailFed, Term: 4, Good: good, Index: index})
	}
	p := begin(t, 0, k)
	p.Tick(0)
	says(t, take(p, 6, 3, 4), fed(true, 6)) // nothing new, four are agreed on
	stands(t, p, api.Follower, 1, 4, 6)
	says(t, p.Tick(0)) // its clock began anew
	saves(t, p, api.Save{}, false)
	for _, c := range []struct {
		index, prev int
		list        []api.Entry
		good        bool
		at          int
		last        int
		from        int
	}{
		{9, 3, nil, false, 6, 6, 0}, {7, 3, entries(4), false, 6, 6, 0}, {6, 2, nil, false, 5, 6, 0}, {5, 3, entries(4), false, 4, 6, 0}, {4, 1, nil, true, 4, 6, 0},
		{4, 1, entries(4), false, 4, 6, 0}, {1, 0, entries(1, 1, 1), true, 4, 6, 0}, {0, 0, nil, true, 0, 6, 0}, {2, 0, entries(1), true, 3, 6, 0},
		{1, 0, entries(1, 1, 2, 2), true, 5, 6, 0}, {3, 0, entries(2, 2, 3), true, 6, 6, 0}, {3, 0, entries(2, 2, 4), true, 6, 6, 6}, {3, 0, entries(2, 3), true, 5, 5, 5},
		{6, 3, entries(4, 4), true, 8, 8, 7}, {5, 2, entries(3, 4), true, 7, 7, 7}, {5, 2, entries(4), true, 6, 6, 6}, {4, 2, entries(2), true, 5, 6, 0}, {4, 2, entries(3), true, 5, 5, 5},
	} {
		q := p.Copy()
		says(t, take(q, c.index, c.prev, 0, c.list...), fed(c.good, c.at))
		stands(t, q, api.Follower, 1, 4, c.last)
		if c.from == 0 {
			saves(t, q, api.Save{}, false)
			keeps(t, q, k)
			continue
		}
		want := k
		want.Entries = append(slices.Clone(k.Entries[:c.from-3]), c.list[c.from-c.index-1:]...)
		keeps(t, q, want)
		saves(t, q, api.Save{Term: 4, Vote: -1, From: c.from, Entries: want.Entries[c.from-3:]}, true)
	}
	for _, c := range [][3]int{{5, 5, 5}, {6, 7, 6}, {7, 99, 7}, {6, 3, 4}, {5, 0, 4}} { // the sum, Commit, what is agreed on then
		q := p.Copy()
		list := entries(4, 4, 4)[:c[0]-4]
		says(t, take(q, 4, 2, c[1], list...), fed(true, c[0]))
		if q.Commit() != c[2] {
			t.Fatal(c, q.Commit())
		}
	}
	q := p.Copy() // a commit isn't above what was fed
	says(t, take(q, 5, 2, 9), fed(true, 5))
	stands(t, q, api.Follower, 1, 5, 6)
	// a candidate follows, a leader lets it go
	q = begin(t, 0, api.Kept{Term: 3, Vote: -1})
	q.Tick(0)
	q.Tick(0)
	says(t, q.Take(2, api.Mail{Kind: api.MailFeed, Term: 4, Entries: entries(4)}), send(2, api.Mail{Kind: api.MailFed, Term: 4, Good: true, Index: 1}))
	stands(t, q, api.Follower, 2, 0, 1)
	q = lead(t)
	says(t, q.Take(2, api.Mail{Kind: api.MailFeed, Term: 5, Entries: entries(5)}))
	says(t, q.Take(2, api.Mail{Kind: api.MailLay, Term: 5, Index: 9, Prev: 5, Data: "x"}))
	stands(t, q, api.Leader, 0, 0, 1)
}

func TestLay(t *testing.T) { // P13.3, P13.5
	k := api.Kept{Term: 4, Vote: 2, Base: 2, BaseTerm: 1, Snap: "s", Entries: entries(1, 2, 2, 3)}
	lay := func(p *poll.Poll, index, prev int) []api.Send {
		return p.Take(1, api.Mail{Kind: api.MailLay, Term: 4, Index: index, Prev: prev, Data: "new"})
	}
	fed := func(index int) api.Send {
		return send(1, api.Mail{Kind: api.MailFed, Term: 4, Good: true, Index: index})
	}
	p := begin(t, 0, k)
	p.Take(1, api.Mail{Kind: api.MailFeed, Term: 4, Index: 3, Prev: 1, Commit: 3})
	stands(t, p, api.Follower, 1, 3, 6)
	for _, c := range []struct {
		index, prev int
		stay        []api.Entry
	}{{4, 2, k.Entries[2:]}, {4, 3, nil}, {5, 2, k.Entries[3:]}, {6, 3, nil}, {7, 3, nil}, {99, 4, nil}} {
		q := p.Copy()
		says(t, lay(q, c.index, c.prev), fed(c.index))
		keeps(t, q, api.Kept{Term: 4, Vote: 2, Base: c.index, BaseTerm: c.prev, Snap: "new", Entries: c.stay})
		stands(t, q, api.Follower, 1, c.index, c.index+len(c.stay))
		saves(t, q, api.Save{Term: 4, Vote: 2, From: c.index + 1, Entries: c.stay}, true)
	}
	for _, index := range []int{1, 2, 3} {
		q := p.Copy()
		says(t, lay(q, index, 1), fed(3))
		keeps(t, q, k)
		saves(t, q, api.Save{}, false)
	}
	q := begin(t, 0, k)
	q.Tick(0)
	says(t, lay(q, 1, 1), fed(2))
	says(t, q.Tick(0))
	stands(t, q, api.Follower, 1, 2, 6)
}

func TestFed(t *testing.T) { // P13.3
	p := lead(t, 1, 2, 2, 3)
	for range 12 {
		p.Propose("x")
	}
	fed := func(p *poll.Poll, from int, good bool, index int) []api.Send {
		return p.Take(from, api.Mail{Kind: api.MailFed, Term: 5, Good: good, Index: index})
	}
	feed := func(to, index, prev, commit int, p *poll.Poll) api.Send {
		m := api.Mail{Kind: api.MailFeed, Term: 5, Index: index, Prev: prev, Commit: commit}
		for n := index + 1; n <= min(index+8, p.Last()); n++ {
			x, _ := p.Entry(n)
			m.Entries = append(m.Entries, x)
		}
		return send(to, m)
	}
	says(t, fed(p, 1, true, 0)) // it matches up to 0, but its next is 5
	says(t, fed(p, 1, false, 4), feed(1, 3, 2, 0, p))
	says(t, fed(p, 1, false, 3), feed(1, 2, 2, 0, p)) // one less than its next at least
	says(t, fed(p, 1, true, 2), feed(1, 2, 2, 0, p))  // of an earlier term: not agreed on
	says(t, fed(p, 1, false, 0))                      // it matches up to there
	stands(t, p, api.Leader, 0, 0, 17)
	says(t, fed(p, 1, true, 10), feed(1, 10, 5, 10, p))
	stands(t, p, api.Leader, 0, 10, 17)
	says(t, fed(p, 1, true, 4), feed(1, 10, 5, 10, p)) // an old one
	says(t, fed(p, 2, true, 12), feed(2, 12, 5, 12, p))
	stands(t, p, api.Leader, 0, 12, 17)
	says(t, fed(p, 2, true, 1000))
	stands(t, p, api.Leader, 0, 17, 17)
	saves(t, p, api.Save{Term: 5, Vote: 0, From: 6, Entries: p.Kept().Entries[5:]}, true)
	// how far next goes back: by one at least, to what was told, but not to what matches
	q := lead(t, 1, 2, 2, 3)
	says(t, fed(q, 1, false, 1), feed(1, 1, 1, 0, q))
	says(t, fed(q, 2, true, 2))
	says(t, fed(q, 2, false, 0), feed(2, 2, 2, 0, q))
	// who said that nothing matches has nothing
	q = lead(t)
	says(t, fed(q, 1, true, 0), feed(1, 0, 0, 0, q))
	stands(t, q, api.Leader, 0, 0, 1)
	// only an entry of its own term tells what is agreed on
	q = lead(t, 1, 2, 4)
	says(t, fed(q, 1, true, 3), feed(1, 3, 4, 0, q))
	stands(t, q, api.Leader, 0, 0, 4)
	says(t, fed(q, 2, true, 4))
	stands(t, q, api.Leader, 0, 4, 4)
	// others let it go
	q = begin(t, 0, api.Kept{Term: 5, Vote: -1, Entries: entries(5)})
	says(t, fed(q, 1, true, 1))
	stands(t, q, api.Follower, -1, 0, 1)
	// below the base its snapshot goes
	if e := p.Compact(12, "snap"); e != api.OK {
		t.Fatal(e)
	}
	q = p.Copy()
	says(t, q.Tick(0), send(1, api.Mail{Kind: api.MailLay, Term: 5, Index: 12, Prev: 5, Data: "snap"}), feed(2, 17, 5, 17, p))
	says(t, fed(q, 1, false, 0))
	says(t, fed(q, 1, true, 12), feed(1, 12, 5, 17, p))
}

func TestCompact(t *testing.T) { // P13.4
	p := lead(t, 1, 2, 3)
	p.Propose("x")
	p.Take(1, api.Mail{Kind: api.MailFed, Term: 5, Good: true, Index: 4})
	before := p.Kept()
	for _, bad := range []int{0, -1, 5, 6, math.MaxInt, math.MinInt} {
		if e := p.Compact(bad, "s"); e != api.ErrArg {
			t.Fatal(bad, e)
		}
	}
	if e := p.Compact(2, strings.Repeat("s", 100001)); e != api.ErrArg {
		t.Fatal(e)
	}
	keeps(t, p, before)
	if e := p.Compact(3, strings.Repeat("s", 100000)); e != api.OK {
		t.Fatal(e)
	}
	keeps(t, p, api.Kept{Term: 5, Base: 3, BaseTerm: 3, Snap: strings.Repeat("s", 100000), Entries: before.Entries[3:]})
	if e := p.Compact(3, "s"); e != api.ErrArg {
		t.Fatal(e)
	}
	if e := p.Compact(4, ""); e != api.OK {
		t.Fatal(e)
	}
	keeps(t, p, api.Kept{Term: 5, Base: 4, BaseTerm: 5, Entries: before.Entries[4:]})
	stands(t, p, api.Leader, 0, 4, 5)
	s, _ := p.Save()
	if s.From != 5 || !slices.Equal(s.Entries, before.Entries[4:]) {
		t.Fatal("an entry that was put is told, not below the base", s)
	}
}

func TestSaveTells(t *testing.T) { // P13.5
	p := begin(t, 1, api.Kept{Term: 3, Vote: 2, Entries: entries(1, 1, 2)})
	p.Take(2, api.Mail{Kind: api.MailAsk, Term: 3, Index: 3, Prev: 2})
	saves(t, p, api.Save{Term: 3, Vote: 2}, true) // set to what it was
	p.Take(2, api.Mail{Kind: api.MailFeed, Term: 3, Index: 3, Prev: 2, Entries: entries(3, 3)})
	p.Take(2, api.Mail{Kind: api.MailFeed, Term: 4, Index: 2, Prev: 1, Entries: entries(4)})
	p.Take(2, api.Mail{Kind: api.MailFeed, Term: 4, Index: 3, Prev: 4, Entries: entries(4)})
	got := p.Kept().Entries
	saves(t, p, api.Save{Term: 4, Vote: -1, From: 3, Entries: got[2:]}, true)
	s := p.Kept()
	s.Entries[0].Data = "turned"
	if x, _ := p.Entry(1); x.Data == "turned" {
		t.Fatal("what is answered is new memory")
	}
}

func TestCopyAndNil(t *testing.T) { // P13.6
	p := lead(t, 1, 2)
	p.Propose("a")
	q := p.Copy()
	p.Propose("b")
	q.Propose("c")
	q.Tick(0)
	q.Take(1, api.Mail{Kind: api.MailFed, Term: 5, Good: true, Index: 5})
	a, _ := p.Entry(5)
	b, _ := q.Entry(5)
	if a.Data != "b" || b.Data != "c" || p.Commit() != 0 || q.Commit() != 5 {
		t.Fatal(a, b)
	}
	for n := range 10 {
		p := lead(t)
		for range n {
			p.Propose("same")
		}
		q := p.Copy()
		p.Propose("p")
		q.Propose("q")
		a, _ := p.Entry(n + 2)
		b, _ := q.Entry(n + 2)
		if a.Data != "p" || b.Data != "q" {
			t.Fatal("they know nothing of each other", n)
		}
	}
	in := api.Kept{Vote: -1, Term: 1, Entries: entries(1, 1)}
	r := begin(t, 0, in)
	in.Entries[0].Data = "turned"
	m := api.Mail{Kind: api.MailFeed, Term: 2, Index: 1, Prev: 1, Entries: make([]api.Entry, 2, 8)}
	m.Entries[0], m.Entries[1] = api.Entry{Term: 2, Data: "p"}, api.Entry{Term: 2, Data: "q"}
	r.Take(1, m)
	m.Entries[0].Data = "turned"
	if x, _ := r.Entry(1); x.Data == "turned" {
		t.Fatal("what is handed in isn't kept")
	}
	if x, _ := r.Entry(2); x.Data != "p" {
		t.Fatal("what is handed in isn't kept", x)
	}
	var n *poll.Poll
	if i, s, e := n.Propose(strings.Repeat("x", 9000)); i != 0 || s != nil || e != api.ErrNil {
		t.Fatal(e)
	}
	if s, ok := n.Save(); ok || !reflect.DeepEqual(s, api.Save{}) {
		t.Fatal(s)
	}
	if x, ok := n.Entry(1); ok || x != (api.Entry{}) {
		t.Fatal(x)
	}
	if n.Tick(0) != nil || n.Take(1, api.Mail{Kind: 1, Term: 1}) != nil || n.Compact(1, "") != api.ErrNil || !reflect.DeepEqual(n.Kept(), api.Kept{}) || n.Role() != 0 || n.Lead() != 0 || n.Commit() != 0 || n.Last() != 0 || n.Copy() != nil {
		t.Fatal("a nil one")
	}
}

// room is three nodes of a site, what each one has on its drive, and the mails between them.
type room struct {
	t      *testing.T
	rnd    *rand.Rand
	nodes  [3]*poll.Poll
	drives [3]api.Kept
	mails  []flight
	agreed []api.Entry // what any node ever had as agreed on
	leads  map[int]int // by term, the node and one
}

type flight struct {
	from int
	send api.Send
}

// behind is done behind each call: what must last does, then the mails go out.
func (r *room) behind(n int, out []api.Send) {
	p := r.nodes[n]
	s, any := p.Save()
	k := p.Kept()
	d := &r.drives[n]
	switch {
	case k.Base != d.Base:
		*d = k
	case any:
		d.Term, d.Vote = s.Term, s.Vote
		if s.From > 0 {
			d.Entries = append(slices.Clone(d.Entries[:s.From-d.Base-1]), s.Entries...)
		}
	}
	got := *d
	if len(got.Entries) == 0 && len(k.Entries) == 0 {
		got.Entries, k.Entries = nil, nil
	}
	if !reflect.DeepEqual(got, k) {
		r.t.Fatalf("what was told to last isn't what it keeps: %+v, %+v", got, k)
	}
	for _, x := range out {
		r.mails = append(r.mails, flight{n, x})
	}
	r.look(n)
}

// look holds a node against what was agreed on.
func (r *room) look(n int) {
	p := r.nodes[n]
	k := p.Kept()
	if p.Role() == api.Leader {
		if was := r.leads[k.Term]; was != 0 && was != n+1 {
			r.t.Fatal("two lead in one term")
		}
		r.leads[k.Term] = n + 1
	}
	for i := k.Base + 1; i <= p.Commit(); i++ {
		x, ok := p.Entry(i)
		if !ok || i <= len(r.agreed) && r.agreed[i-1] != x || i > len(r.agreed)+1 {
			r.t.Fatal("agreed on otherwise", i, x)
		}
		if i > len(r.agreed) {
			r.agreed = append(r.agreed, x)
		}
	}
	if k.Base > 0 && k.Snap != fmt.Sprint(r.agreed[:k.Base]) {
		r.t.Fatal("a base that isn't what was agreed on")
	}
	if p.Role() == api.Leader {
		for i := k.Base + 1; i <= len(r.agreed); i++ {
			if x, ok := p.Entry(i); (!ok || x != r.agreed[i-1]) && r.agreed[i-1].Term < k.Term {
				r.t.Fatal("who leads hasn't all that was agreed on")
			}
		}
	}
}

func (r *room) step(calm bool) {
	n := r.rnd.Intn(3)
	p := r.nodes[n]
	k := r.rnd.Intn(20)
	switch {
	case k < 4:
		r.behind(n, p.Tick(r.rnd.Intn(9)-4))
	case k < 6 && p.Role() == api.Leader:
		_, out, _ := p.Propose(fmt.Sprint(r.rnd.Int()))
		r.behind(n, out)
	case k == 6 && p.Commit() > p.Kept().Base:
		index := p.Kept().Base + 1 + r.rnd.Intn(p.Commit()-p.Kept().Base)
		if e := p.Compact(index, fmt.Sprint(r.agreed[:index])); e != api.OK {
			r.t.Fatal(e)
		}
		r.behind(n, nil)
	case k == 7 && !calm:
		p, e := poll.New(conf, n, r.drives[n])
		if e != api.OK {
			r.t.Fatal(e)
		}
		r.nodes[n] = p
	case len(r.mails) > 0:
		i := r.rnd.Intn(len(r.mails))
		f := r.mails[i]
		if calm || r.rnd.Intn(4) > 0 { // not there twice
			r.mails = slices.Delete(r.mails, i, i+1)
		}
		if calm || r.rnd.Intn(4) > 0 { // not lost
			r.behind(f.send.To, r.nodes[f.send.To].Take(f.from, f.send.Mail))
		}
	}
	if len(r.mails) > 60 {
		r.mails = r.mails[20:]
	}
}

func TestThreeNodes(t *testing.T) { // P13.5, P13.7
	most := 0
	for seed := range 150 {
		r := &room{t: t, rnd: rand.New(rand.NewSource(int64(seed))), leads: map[int]int{}}
		for n := range r.nodes {
			r.drives[n] = fresh()
			r.nodes[n] = begin(t, n, fresh())
		}
		for i := range 1500 {
			r.step(i/300%2 == 1)
		}
		most = max(most, len(r.agreed))
	}
	if most < 20 {
		t.Fatal("hardly anything was agreed on", most)
	}
}
