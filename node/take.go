package node

import (
	"slices"

	"redoubt/api"
	"redoubt/bucket"
	"redoubt/carve"
	"redoubt/hunt"
	"redoubt/lane"
	"redoubt/sha"
	"redoubt/sheet"
)

// take does what a mail asks for; all else is let go.
func (n *Node) take(c *call, from int, m api.Mail) {
	switch m.Kind {
	case api.MailAsk, api.MailVote, api.MailFeed, api.MailFed, api.MailLay:
		if n.isMate(from) {
			n.takePart(c, from, m)
		}
	case api.MailWhole:
		if n.isMate(from) {
			n.reports[from%api.PerSite] = api.Reach{At: m.At, Holes: m.Holes}
		}
	case api.MailWant:
		n.serve(c, from, m.Hashes...)
	case api.MailBlob:
		if hash := sha.Sum(m.Data); slices.Contains(n.needs(), hash) && n.lacks(hash) {
			n.store(m.Data)
		}
	case api.MailShip:
		if n.isFar(from) && n.leads() {
			n.meet(c, from, m)
		}
	case api.MailShipped:
		if n.isFar(from) && n.lane != nil {
			n.Hear(n.lane.Take(m, n.ledger.Ops()))
		}
	case api.MailGrant:
		if from == api.Witness {
			n.Crown.Take(m)
		}
	}
}

// takePart lets its part take a mail. A snapshot that is no ledger's can't be taken up, and is let go.
func (n *Node) takePart(c *call, from int, m api.Mail) {
	if m.Kind == api.MailLay {
		twin := n.poll.Copy()
		twin.Take(from%api.PerSite, m)
		if _, e := n.ledgerOf(twin.Kept()); e != api.OK {
			return
		}
	}
	n.sayPart(c, n.poll.Take(from%api.PerSite, m)...)
}

// serve sends chunks that are asked for: to nodes that aren't of its site only as many as the bucket lets go.
func (n *Node) serve(c *call, to int, hashes ...string) {
	var limit *bucket.Bucket
	if siteOf(to) != n.site {
		limit = n.bucket
	}
	for _, chunk := range hunt.Serve(n.vault, limit, hashes...) {
		n.say(c, to, api.Mail{Kind: api.MailBlob, Data: chunk})
	}
}

// store puts a chunk into the vault, once more behind a Sweep if there is no room.
func (n *Node) store(chunk string) api.Errno {
	_, e := n.vault.Put(chunk)
	if e == api.ErrQuota {
		n.vault.Sweep()
		_, e = n.vault.Put(chunk)
	}
	return e
}

// meet does with operations of the other site what is to be done.
func (n *Node) meet(c *call, from int, m api.Mail) {
	n.Hear(m.Epoch)
	answer, cmd, what := lane.Meet(n.ledger, m, n.siteMark())
	switch {
	case what == lane.Answer:
		n.say(c, from, answer)
	case what == lane.Propose && n.allDone():
		n.put(c, cmd)
	}
}

// fits tells why a request may not be.
func fits(a api.Ask) api.Errno {
	changes := a.Kind == api.AskPut || a.Kind == api.AskDrop
	switch {
	case !within(a.Kind, api.AskPut, api.AskLost) || !within(a.Client, 0, api.MaxClients-1):
		return api.ErrArg
	case changes && (!within(a.Seq, 1, api.MaxSeq) || !within(a.Mode, api.ModeAsync, api.ModeSync) || !within(a.Lag, 0, api.MaxOps)):
		return api.ErrArg
	case (changes || a.Kind == api.AskRestore) && !within(len(a.Name), 1, api.MaxName):
		return api.ErrArg
	case a.Kind == api.AskPut && len(a.Data) > api.MaxBackup:
		return api.ErrLong
	}
	return api.OK
}

// ask does a request; it is answered now, or it waits at the desk.
func (n *Node) ask(c *call, number int, a api.Ask) (x api.Reply, now bool) {
	e := fits(a)
	if e == api.OK && !n.leads() {
		e = api.ErrFollower
	}
	if e == api.OK && a.Kind == api.AskReign {
		return n.askReign(), true
	}
	if e == api.OK && (a.Kind == api.AskPut || a.Kind == api.AskDrop) {
		e = n.Primary(n.ledger)
	}
	if e == api.OK && n.Len() >= api.MaxPending {
		e = api.ErrQueue
	}
	if e == api.OK {
		e = n.lay(c, number, a)
	}
	return api.Reply{Err: e}, e != api.OK
}

// askReign lets the site want to be the primary one, if it isn't.
func (n *Node) askReign() api.Reply {
	if n.Primary(n.ledger) == api.OK {
		return api.Reply{At: n.reignPlace()}
	}
	if e := n.Want(n.ledger.Fence()); e != api.OK {
		return api.Reply{Err: e}
	}
	return api.Reply{At: n.ledger.Last()}
}

// reignPlace is the place of the ledger's last reign.
func (n *Node) reignPlace() api.Spot {
	for _, o := range slices.Backward(n.ledger.Ops()) {
		if o.Kind == api.OpReign {
			return api.Spot{N: o.N, Epoch: o.Epoch}
		}
	}
	return api.Spot{}
}

// lay proposes a request's command, and lets the request wait for its entry.
func (n *Node) lay(c *call, number int, a api.Ask) api.Errno {
	cmd := api.Command{Kind: api.CmdLook}
	switch a.Kind {
	case api.AskPut:
		s, e := n.storeAll(a.Data)
		if e != api.OK {
			return e
		}
		cmd = n.doing(api.Op{Kind: api.OpPut, Client: a.Client, Seq: a.Seq, Name: a.Name, Sheet: s})
	case api.AskDrop:
		cmd = n.doing(api.Op{Kind: api.OpDrop, Client: a.Client, Seq: a.Seq, Name: a.Name})
	}
	index := n.put(c, cmd)
	return n.Add(number, a, index, n.term())
}

func (n *Node) doing(o api.Op) api.Command {
	return api.Command{Kind: api.CmdDo, Epoch: n.ledger.Fence(), Site: n.site, Op: o}
}

// storeAll puts all chunks of a backup into the vault. They are held meanwhile: a Sweep for the last one must not take the first one away.
func (n *Node) storeAll(data string) (api.Sheet, api.Errno) {
	s, e := sheet.Make(data)
	if e != api.OK {
		return api.Sheet{}, e
	}
	n.vault.Hold(s.Hashes...)
	defer n.vault.Free(s.Hashes...)
	for _, chunk := range carve.Cut(data) {
		if e := n.store(chunk); e != api.OK {
			return api.Sheet{}, e
		}
	}
	return s, api.OK
}
