package node

import (
	"slices"

	"redoubt/api"
	"redoubt/mail"
)

// call is one call of a node: how it stood when that began, and what it says.
type call struct {
	led     bool
	term    int
	replies []api.Reply
	part    []api.Letter // those of its part
	others  []api.Letter
}

func (n *Node) begin() *call { return &call{led: n.leads(), term: n.term()} }

// letter is a mail from the node as a letter.
func (n *Node) letter(to int, m api.Mail) []api.Letter {
	data, e := mail.Pack(m)
	if e != api.OK {
		return nil
	}
	return []api.Letter{{From: n.id, To: to, Data: data}}
}

// say sends mails to a node, by its number of all.
func (n *Node) say(c *call, to int, mails ...api.Mail) {
	for _, m := range mails {
		c.others = append(c.others, n.letter(to, m)...)
	}
}

// sayPart sends what its part says to nodes of its site.
func (n *Node) sayPart(c *call, sends ...api.Send) {
	for _, s := range sends {
		c.part = append(c.part, n.letter(n.site*api.PerSite+s.To, s.Mail)...)
	}
}

// mates are the other nodes of its site, rising.
func (n *Node) mates() []int {
	var list []int
	for k := range api.PerSite {
		if k != n.me {
			list = append(list, n.site*api.PerSite+k)
		}
	}
	return list
}

// siteOf is a node's site, -1 of others.
func siteOf(id int) int {
	if !within(id, 0, nodes-1) {
		return -1
	}
	return id / api.PerSite
}

func (n *Node) isMate(id int) bool { return siteOf(id) == n.site && id != n.id }

func (n *Node) isFar(id int) bool { return siteOf(id) == 1-n.site }

// Take: a letter comes.
func (n *Node) Take(l api.Letter) ([]api.Reply, []api.Letter) {
	if n.off() || l.To != n.id {
		return nil, nil
	}
	m, e := mail.Parse(l.Data)
	if e != api.OK {
		return nil, nil
	}
	c := n.begin()
	n.take(c, l.From, m)
	return n.end(c)
}

// Tick: its time goes on.
func (n *Node) Tick(draw int) ([]api.Reply, []api.Letter) {
	if n.off() {
		return nil, nil
	}
	c := n.begin()
	n.bucket.Tick()
	n.sayPart(c, n.poll.Tick(draw)...)
	n.vault.Sweep()
	if to, hashes := n.Hunt.Tick(n.missing()...); len(hashes) > 0 {
		n.say(c, to, api.Mail{Kind: api.MailWant, Hashes: hashes})
	}
	own := n.reports[n.me]
	for _, id := range n.mates() {
		n.say(c, id, api.Mail{Kind: api.MailWhole, At: own.At, Holes: own.Holes})
	}
	if n.leads() {
		n.lead(c)
	}
	return n.end(c)
}

// lead is what a leader says in each tick, beside its part.
func (n *Node) lead(c *call) {
	n.say(c, api.Witness, n.Crown.Tick())
	if n.lane == nil {
		return
	}
	offer := n.lane.Offer(n.ledger.Ops())
	for k := range api.PerSite {
		n.say(c, (1-n.site)*api.PerSite+k, offer)
	}
}

// Ask: a client's request comes.
func (n *Node) Ask(number int, a api.Ask) ([]api.Reply, []api.Letter) {
	if n.off() {
		return nil, nil
	}
	c := n.begin()
	if x, now := n.ask(c, number, a); now {
		x.Ask = number
		c.replies = append(c.replies, x)
	}
	return n.end(c)
}

// end is what is done behind each call; nothing is said ahead of what must last.
func (n *Node) end(c *call) ([]api.Reply, []api.Letter) {
	for _, step := range []func(c *call){n.makeLast, n.resign, n.apply, n.compact, n.tidy, n.propose, n.answer} {
		step(c)
		if n.off() {
			return nil, nil
		}
	}
	return c.replies, slices.Concat(c.part, c.others)
}
