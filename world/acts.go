package world

import (
	"slices"

	"redoubt/api"
	"redoubt/mail"
)

const (
	chunkFiles = "b."
	bitsOfByte = 8
)

// Do: an act of a script.
func (w *World) Do(a api.Act) api.Errno {
	if w == nil {
		return api.ErrNil
	}
	e := w.act(a)
	// Where a node can't begin, its drive has changed all the same.
	if e == api.OK || a.Kind == api.ActStart {
		a.Keeps = slices.Clone(a.Keeps)
		w.done = append(w.done, a)
	}
	return e
}

func (w *World) act(a api.Act) api.Errno {
	switch a.Kind {
	case api.ActAsk:
		return w.ask(a.Node, a.Ask)
	case api.ActDeliver:
		return w.deliver(a.K)
	case api.ActDrop:
		_, e := w.Take(a.K)
		return e
	case api.ActTwin:
		return w.Twin(a.K)
	case api.ActTick:
		return w.tick(a.Node, a.Draw)
	case api.ActCrash:
		return w.crash(a.Node, a.Keeps...)
	case api.ActStart:
		return w.start(a.Node, a.Keeps...)
	case api.ActFuse:
		e := w.denies(a.Node, api.Witness)
		if e == api.OK {
			w.drives[a.Node].Fuse(a.K)
		}
		return e
	case api.ActLose:
		return w.lose(a.K)
	case api.ActFlip:
		return w.flip(a)
	}
	return api.ErrArg
}

// denies tells why nothing may be done with a node's drive: its number isn't 0 to last, or it is of the lost site.
func (w *World) denies(id, last int) api.Errno {
	switch {
	case !within(id, 0, last):
		return api.ErrArg
	case isNode(id) && id/api.PerSite == w.lost:
		return api.ErrDenied
	}
	return api.OK
}

// say lets what a node says go out.
func (w *World) say(replies []api.Reply, letters []api.Letter) {
	w.replies = append(w.replies, replies...)
	for _, l := range letters {
		w.Send(l)
	}
}

func (w *World) ask(id int, a api.Ask) api.Errno {
	if !isNode(id) {
		return api.ErrArg
	}
	number := len(w.asks)
	w.asks = append(w.asks, a)
	if w.up(id) {
		w.say(w.nodes[id].Ask(number, a))
	} else {
		w.say([]api.Reply{{Ask: number, Err: api.ErrDown}}, nil)
	}
	return api.OK
}

func (w *World) deliver(k int) api.Errno {
	l, e := w.Take(k)
	switch {
	case e != api.OK:
		return e
	case !w.up(l.To):
	case l.To == api.Witness:
		w.claim(l)
	default:
		w.say(w.nodes[l.To].Take(l))
	}
	return api.OK
}

// claim is the witness' part when a letter comes.
func (w *World) claim(l api.Letter) {
	m, e := mail.Parse(l.Data)
	if e != api.OK || m.Kind != api.MailClaim {
		return
	}
	if _, e := w.witness.Claim(m.Epoch, m.Site); e != api.OK && e != api.ErrSaturated {
		return
	}
	g := w.witness.Grant()
	data, e := mail.Pack(api.Mail{Kind: api.MailGrant, Epoch: g.Epoch, Site: g.Site})
	if e == api.OK {
		w.Send(api.Letter{From: api.Witness, To: l.From, Data: data})
	}
}

func (w *World) tick(id, draw int) api.Errno {
	switch {
	case !isNode(id):
		return api.ErrArg
	case !w.up(id):
		return api.ErrDown
	}
	w.say(w.nodes[id].Tick(draw))
	return api.OK
}

func (w *World) crash(id int, keeps ...int) api.Errno {
	e := w.denies(id, api.Witness)
	if e == api.OK {
		w.end(id)
		w.drives[id].Crash(keeps...)
	}
	return e
}

func (w *World) start(id int, keeps ...int) api.Errno {
	if e := w.denies(id, api.Witness); e != api.OK {
		return e
	}
	if w.up(id) {
		return api.ErrThere
	}
	w.end(id)
	w.drives[id].Crash(keeps...)
	e := w.begin(w.conf, id)
	if e != api.OK {
		w.end(id)
	}
	return e
}

func (w *World) lose(site int) api.Errno {
	switch {
	case !within(site, 0, api.Sites-1):
		return api.ErrArg
	case w.lost != nowhere:
		return api.ErrDenied
	}
	w.lost = site
	for k := range api.PerSite {
		id := site*api.PerSite + k
		w.end(id)
		w.Purge(id)
	}
	return api.OK
}

func (w *World) flip(a api.Act) api.Errno {
	if e := w.denies(a.Node, nodes-1); e != api.OK {
		return e
	}
	d := w.drives[a.Node]
	names := d.Names(chunkFiles)
	if len(names) == 0 || a.K < 0 || a.Draw < 0 {
		return api.ErrNone
	}
	name := names[a.K%len(names)]
	text, _ := d.Read(name)
	if text == "" {
		return api.ErrNone
	}
	return d.Flip(name, a.Draw%(bitsOfByte*len(text)))
}
