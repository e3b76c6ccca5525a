package node_test

import (
	"math/rand"
	"strings"
	"testing"

	"redoubt/api"
	"redoubt/deed"
	"redoubt/disk"
	"redoubt/ledger"
	"redoubt/mail"
	"redoubt/node"
	"redoubt/sheet"
)

// forged is a mail that may be, of whatever no node would say.
func forged(rnd *rand.Rand) api.Mail {
	small := func() int { return []int{0, 1, 2, 3, 5, 9, 1 << 40}[rnd.Intn(7)] }
	spot := func() api.Spot {
		if rnd.Intn(4) == 0 {
			return api.Spot{}
		}
		return api.Spot{N: 1 + rnd.Intn(5), Epoch: 1 + rnd.Intn(4)}
	}
	op := func(n, epoch int) api.Op {
		s, _ := sheet.Make(strings.Repeat("x", rnd.Intn(200)))
		return api.Op{N: n, Epoch: epoch, Kind: api.OpPut, Site: rnd.Intn(2), Client: rnd.Intn(3), Seq: 1 + rnd.Intn(9), Name: string([]byte{byte('a' + rnd.Intn(3))}), Sheet: s}
	}
	command := func() string {
		c := api.Command{Kind: rnd.Intn(6)}
		switch c.Kind {
		case api.CmdDo:
			c.Epoch, c.Site, c.Op = 1+rnd.Intn(4), rnd.Intn(2), op(0, 0)
			c.Op.Site = 0
		case api.CmdShip, api.CmdReign:
			c.Epoch, c.Site = 1+rnd.Intn(4), rnd.Intn(2)
		case api.CmdMark:
			c.Epoch, c.Site, c.After, c.Since = 4, rnd.Intn(2), 1+rnd.Intn(5), 1+rnd.Intn(4)
		}
		if rnd.Intn(6) == 0 {
			return "no command"
		}
		return deed.Pack(c)
	}
	m := api.Mail{Kind: 1 + rnd.Intn(12)}
	if m.Kind <= api.MailLay {
		m.Term = 1 + small()%(1<<39)
	}
	switch m.Kind {
	case api.MailAsk:
		m.Index, m.Prev = small(), small()
	case api.MailVote:
		m.Good = rnd.Intn(3) > 0
	case api.MailFeed:
		m.Index, m.Prev, m.Commit = small(), small(), small()
		for range rnd.Intn(9) {
			m.Entries = append(m.Entries, api.Entry{Term: 1 + rnd.Intn(4), Data: command()})
		}
	case api.MailFed:
		m.Good, m.Index = rnd.Intn(2) == 0, small()
	case api.MailLay:
		m.Index, m.Prev = small(), small()
		l, _ := ledger.New(1, 1)
		l.Apply(api.Command{Kind: api.CmdReign, Epoch: 1 + rnd.Intn(3)})
		m.Data = []string{l.Pack(), "none"}[rnd.Intn(2)]
	case api.MailWhole, api.MailShipped:
		m.At = spot()
		holes := m.At.N
		if m.Kind == api.MailShipped {
			m.Epoch, m.Good, m.Whole = 1+rnd.Intn(5), rnd.Intn(2) == 0, spot()
			holes = m.Whole.N
		}
		for n := 1; n <= holes; n++ {
			if rnd.Intn(3) == 0 {
				m.Holes = append(m.Holes, n)
			}
		}
	case api.MailWant:
		m.Hashes = []string{strings.Repeat("h", 32)}
	case api.MailBlob:
		m.Data = strings.Repeat("x", 1+rnd.Intn(64))
	case api.MailShip:
		m.Epoch, m.Site, m.At = 4, rnd.Intn(2), spot()
		for n := range rnd.Intn(4) {
			o := op(m.At.N+1+n, max(1, m.At.Epoch))
			o.Site = 0
			if m.At.N == 0 && n == 0 {
				o = api.Op{N: 1, Epoch: 1, Kind: api.OpReign}
			}
			m.Ops = append(m.Ops, o)
		}
	case api.MailClaim, api.MailGrant:
		m.Epoch = rnd.Intn(5)
		if m.Epoch > 0 {
			m.Site = rnd.Intn(2)
		}
	}
	return m
}

// TestForged lets whatever may be a mail come, from whomever: nothing panics, all ends, and a node tells what may be.
func TestForged(t *testing.T) { // P23.3
	came := 0
	for seed := range 300 {
		rnd := rand.New(rand.NewSource(int64(seed)))
		d := disk.New()
		id := rnd.Intn(6)
		n, e := node.Open(conf, id, d)
		if e != api.OK {
			t.Fatal(e)
		}
		for i := range 120 {
			switch rnd.Intn(8) {
			case 0:
				n.Tick(rnd.Intn(9) - 4)
			case 1:
				n.Ask(i, api.Ask{Kind: rnd.Intn(8), Client: rnd.Intn(3), Seq: i, Name: "a", Data: strings.Repeat("x", rnd.Intn(300)), Mode: rnd.Intn(3)})
			default:
				data, e := mail.Pack(forged(rnd))
				if e != api.OK {
					continue
				}
				came++
				_, l := n.Take(api.Letter{From: rnd.Intn(9) - 1, To: id, Data: data})
				for _, x := range l {
					if _, e := mail.Parse(x.Data); e != api.OK || x.From != id {
						t.Fatal("what it says is a mail of its own")
					}
				}
			}
			l := n.Ledger()
			if l == nil {
				t.Fatal("its drive is well")
			}
			if !deed.Row(api.Spot{}, l.Ops()...) || n.Waits() > api.MaxPending {
				t.Fatal("no ledger")
			}
		}
	}
	if came < 10000 {
		t.Fatal("hardly anything came", came)
	}
}
