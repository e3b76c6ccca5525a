package node

import (
	"slices"

	"redoubt/api"
	"redoubt/deed"
	"redoubt/lane"
)

// makeLast lets what its part keeps last, and takes up a snapshot that came.
func (n *Node) makeLast(*call) {
	s, touched := n.poll.Save()
	k := n.poll.Kept()
	e := api.OK
	switch {
	case k.Base != n.base:
		e = n.keep.Lay(k)
		n.base = k.Base
	case touched:
		e = n.keep.Save(s)
	}
	if e == api.OK && k.Base > n.applied {
		n.ledger, e = n.ledgerOf(k)
		n.applied = k.Base
	}
	n.dead = n.dead || e != api.OK
}

// resign gives up what only the leader has that it was when the call began.
func (n *Node) resign(c *call) {
	if !c.led || n.leads() && n.term() == c.term {
		return
	}
	c.replies = append(c.replies, n.Drop()...)
	n.Rest()
	n.lane, n.laneEpoch = nil, 0
	for k := range n.reports {
		if k != n.me {
			n.reports[k] = api.Reach{}
		}
	}
}

// apply does the entries that are agreed on.
func (n *Node) apply(c *call) {
	for n.applied < n.poll.Commit() {
		n.applied++
		x, _ := n.poll.Entry(n.applied)
		done := n.do(x.Data)
		if n.leads() {
			c.replies = append(c.replies, n.Agreed(n.applied, x.Term, done, n.ledger)...)
		}
	}
}

// do does an entry's command. An entry without data is an idle one.
func (n *Node) do(data string) api.Done {
	if data == "" {
		return n.ledger.Apply(api.Command{Kind: api.CmdIdle})
	}
	cmd, e := deed.Parse(data)
	if e != api.OK {
		return api.Done{Err: e}
	}
	return n.ledger.Apply(cmd)
}

// compact lets a snapshot take the place of the entries that were done, when these are many.
func (n *Node) compact(c *call) {
	if n.applied-n.base < n.conf.Snap {
		return
	}
	if n.poll.Compact(n.applied, n.ledger.Pack()) == api.OK {
		n.makeLast(c)
	}
}

func (n *Node) tidy(*call) {
	n.hold()
	n.report()
}

// hold lets the vault hold just what the ledger needs, and what it will by entries that aren't done yet.
func (n *Node) hold() {
	lists := [][]string{n.ledger.Needs()}
	for i := n.applied + 1; i <= n.poll.Last(); i++ {
		x, _ := n.poll.Entry(i)
		if cmd, e := deed.Parse(x.Data); e == api.OK && cmd.Kind == api.CmdDo {
			lists = append(lists, cmd.Op.Sheet.Hashes)
		}
	}
	should := union(lists...)
	if slices.Equal(should, n.held) {
		return
	}
	n.vault.Free(n.held...)
	n.vault.Hold(should...)
	n.held = should
}

// lacks tells whether the vault would say of a hash that it is missing.
func (n *Node) lacks(hash string) bool { return !n.vault.Has(hash) }

// report makes its own report anew.
func (n *Node) report() {
	own := api.Reach{At: n.ledger.Last()}
	for _, o := range n.ledger.Puts() {
		if slices.ContainsFunc(o.Sheet.Hashes, n.lacks) {
			own.Holes = append(own.Holes, o.N)
		}
	}
	n.reports[n.me] = own
}

// hasPlace tells whether there is an operation at a place.
func hasPlace(ops []api.Op, at api.Spot) bool {
	return within(at.N, 1, len(ops)) && ops[at.N-1].Epoch == at.Epoch
}

// siteMark is up to where two nodes of the site have operations with all their chunks.
func (n *Node) siteMark() api.Reach {
	var had []api.Reach
	ops := n.ledger.Ops()
	for _, r := range n.reports {
		if hasPlace(ops, r.At) {
			had = append(had, r)
		}
	}
	if len(had) < 2 {
		return api.Reach{}
	}
	slices.SortStableFunc(had, func(a, b api.Reach) int { return b.At.N - a.At.N })
	mark := api.Reach{At: had[1].At}
	for k := 1; k <= mark.At.N; k++ {
		if countOf(k, had...) < 2 {
			mark.Holes = append(mark.Holes, k)
		}
	}
	return mark
}

// countOf is how many reports have a number.
func countOf(k int, reports ...api.Reach) int {
	count := 0
	for _, r := range reports {
		if r.At.N >= k && !slices.Contains(r.Holes, k) {
			count++
		}
	}
	return count
}

// propose lays the lane of the epoch that is the site's own, and proposes one command, if there is one.
func (n *Node) propose(c *call) {
	n.layLane()
	if !n.leads() || !n.allDone() {
		return
	}
	if cmd, ok := n.Next(n.ledger); ok {
		n.put(c, cmd)
		return
	}
	mark := n.lane.Mark()
	if mark.N > n.ledger.Settled() && hasPlace(n.ledger.Ops(), mark) {
		n.put(c, api.Command{Kind: api.CmdMark, Epoch: n.laneEpoch, Site: n.site, After: mark.N, Since: mark.Epoch})
	}
}

// layLane lets the node have a lane just if it leads the primary site.
func (n *Node) layLane() {
	fence := n.ledger.Fence()
	mine := fence > 0 && n.ledger.Holder() == api.Grant{Epoch: fence, Site: n.site}
	switch {
	case !n.leads() || !mine:
		n.lane, n.laneEpoch = nil, 0
	case n.lane == nil || n.laneEpoch != fence:
		n.lane, _ = lane.New(fence, n.site, len(n.ledger.Ops()))
		n.laneEpoch = fence
	}
}

// put proposes a command; its entry's number is answered, 0 if there is none.
func (n *Node) put(c *call, cmd api.Command) int {
	index, sends, e := n.poll.Propose(deed.Pack(cmd))
	if e != api.OK {
		return 0
	}
	n.sayPart(c, sends...)
	return index
}

// answer answers the requests that have waited long enough; what was proposed lasts.
func (n *Node) answer(c *call) {
	if n.leads() {
		c.replies = append(c.replies, n.Settle(n.ledger, n.siteMark(), n.lane.Mark(), n.lane.Whole())...)
		c.replies = append(c.replies, n.Fetch(n.vault, n.ledger)...)
	}
	n.makeLast(c)
}
