package poll

import "redoubt/api"

// Take: a mail comes.
func (p *Poll) Take(from int, m api.Mail) []api.Send {
	if p == nil || from == p.me || !within(from, 0, api.PerSite-1) || !mayCome(m) {
		return nil
	}
	if m.Term > p.Term {
		p.Term, p.Vote = m.Term, nobody
		p.touch()
		p.role, p.lead = api.Follower, nobody
	}
	if m.Term < p.Term {
		return p.late(from, m)
	}
	switch m.Kind {
	case api.MailAsk:
		return p.asked(from, m)
	case api.MailVote:
		return p.voted(m)
	case api.MailFeed:
		return p.fed(from, m)
	case api.MailLay:
		return p.laid(from, m)
	}
	return p.told(from, m)
}

// mayCome tells whether a mail isn't to be let go.
func mayCome(m api.Mail) bool {
	if !within(m.Kind, api.MailAsk, api.MailLay) || !within(m.Term, 1, api.MaxTerm) {
		return false
	}
	if !within(m.Index, 0, api.MaxTerm) || !within(m.Prev, 0, api.MaxTerm) || !within(m.Commit, 0, api.MaxTerm) {
		return false
	}
	if len(m.Entries) > api.MaxFeed || len(m.Data) > maxSnap || !rising(m.Entries, m.Prev, m.Term) {
		return false
	}
	return m.Kind != api.MailLay || m.Index > 0 && m.Prev > 0 && m.Prev <= m.Term
}

// answer is one mail to a node.
func (p *Poll) answer(to, kind int, good bool, index int) []api.Send {
	return p.mails(api.Send{To: to, Mail: api.Mail{Kind: kind, Good: good, Index: index}})
}

// late answers what is of a term that is over.
func (p *Poll) late(from int, m api.Mail) []api.Send {
	switch m.Kind {
	case api.MailAsk:
		return p.answer(from, api.MailVote, false, 0)
	case api.MailFeed, api.MailLay:
		return p.answer(from, api.MailFed, false, 0)
	}
	return nil
}

func (p *Poll) asked(from int, m api.Mail) []api.Send {
	free := p.Vote == nobody || p.Vote == from
	ahead := m.Prev > p.lastTerm() || m.Prev == p.lastTerm() && m.Index >= p.last()
	good := free && ahead
	if good {
		p.Vote = from
		p.touch()
		p.clock = 0
	}
	return p.answer(from, api.MailVote, good, 0)
}

func (p *Poll) voted(m api.Mail) []api.Send {
	if p.role != api.Candidate || !m.Good {
		return nil
	}
	// Its own vote and this one are most of three: none need be counted.
	return p.reign()
}

// follow makes a node of this term the leader.
func (p *Poll) follow(from int) {
	p.role, p.lead, p.clock = api.Follower, from, 0
}

func (p *Poll) fed(from int, m api.Mail) []api.Send {
	if p.role == api.Leader {
		return nil
	}
	p.follow(from)
	i, list := m.Index, m.Entries
	if end := i + len(list); end <= p.commit {
		return p.answer(from, api.MailFed, true, end)
	}
	if i < p.commit {
		list = list[p.commit-i:]
		i = p.commit
	} else if term, ok := p.termAt(i); !ok || term != m.Prev {
		return p.answer(from, api.MailFed, false, max(min(p.last(), i-1), p.commit))
	}
	p.join(i, list)
	end := i + len(list)
	p.commit = max(p.commit, min(m.Commit, end))
	return p.answer(from, api.MailFed, true, end)
}

// join lays entries behind that of the number i, as far as they aren't there: the first one that is another takes the place of all from there on.
func (p *Poll) join(i int, list []api.Entry) {
	for k, e := range list {
		n := i + k + 1
		if term, ok := p.termAt(n); ok && term == e.Term {
			continue
		}
		p.Entries = append(p.Entries[:n-p.Base-1:n-p.Base-1], list[k:]...)
		p.touchFrom(n)
		return
	}
}

func (p *Poll) laid(from int, m api.Mail) []api.Send {
	if p.role == api.Leader {
		return nil
	}
	p.follow(from)
	if m.Index > p.commit {
		p.lay(m.Index, m.Prev, m.Data)
		p.commit = m.Index
		p.touchFrom(m.Index + 1)
	}
	return p.answer(from, api.MailFed, true, p.commit)
}

// told is a leader's part when a node says how far it is.
func (p *Poll) told(from int, m api.Mail) []api.Send {
	if p.role != api.Leader {
		return nil
	}
	if !m.Good {
		t := max(min(p.next[from]-1, m.Index+1), p.match[from]+1)
		if t >= p.next[from] {
			return nil
		}
		p.next[from] = t
		return p.feed(from)
	}
	p.match[from] = max(p.match[from], min(m.Index, p.last()))
	p.next[from] = max(p.next[from], p.match[from]+1)
	p.agree()
	if p.next[from] <= p.last() && p.match[from] == p.next[from]-1 {
		return p.feed(from)
	}
	return nil
}

// agree finds how far the entries are at most nodes. Only an entry of the leader's own term tells it.
func (p *Poll) agree() {
	for n := p.last(); n > p.commit; n-- {
		if p.at(n).Term == p.Term && p.atOthers(n) {
			p.commit = n
			return
		}
	}
}

func (p *Poll) atOthers(n int) bool {
	for _, o := range p.others() {
		if p.match[o] >= n {
			return true
		}
	}
	return false
}
