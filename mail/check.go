package mail

import (
	"redoubt/api"
	"redoubt/deed"
)

const (
	maxN     = api.MaxOps + api.MaxEpochs
	maxData  = 8000   // bytes of an entry
	maxSnap  = 100000 // bytes of a snapshot
	hashSize = 32
)

// within tells whether n is low to high.
func within(n, low, high int) bool { return low <= n && n <= high }

// bare tells whether nothing is in a mail.
func bare(m api.Mail) bool {
	numbers := m.Kind == 0 && m.Term == 0 && m.Index == 0 && m.Prev == 0 && m.Commit == 0 && m.Epoch == 0 && m.Site == 0
	places := m.At == api.Spot{} && m.Whole == api.Spot{}
	lists := len(m.Entries) == 0 && len(m.Hashes) == 0 && len(m.Holes) == 0 && len(m.Ops) == 0
	return numbers && places && lists && !m.Good && m.Data == ""
}

// named is a mail without what its kind names, and whether that is as it is to be.
func named(m api.Mail) (rest api.Mail, ok bool) {
	kind := m.Kind
	rest = m
	rest.Kind = 0
	switch {
	case within(kind, api.MailAsk, api.MailLay):
		rest.Term = 0
		ok = within(m.Term, 1, api.MaxTerm) && withinTerms(m.Index, m.Prev, m.Commit)
		rest = ofPoll(kind, rest)
		return rest, ok && pollFits(m)
	case kind == api.MailWhole:
		rest.At, rest.Holes = api.Spot{}, nil
		return rest, isPlace(m.At) && areHoles(m.Holes, m.At.N)
	case kind == api.MailWant:
		rest.Hashes = nil
		return rest, areWants(m.Hashes)
	case kind == api.MailBlob:
		rest.Data = ""
		return rest, within(len(m.Data), 1, api.ChunkSize)
	case kind == api.MailShip:
		rest.Epoch, rest.Site, rest.At, rest.Ops = 0, 0, api.Spot{}, nil
		return rest, within(m.Epoch, 1, api.MaxEpochs) && isSite(m.Site) && areShipped(m)
	case kind == api.MailShipped:
		rest.Epoch, rest.Good, rest.At, rest.Whole, rest.Holes = 0, false, api.Spot{}, api.Spot{}, nil
		return rest, within(m.Epoch, 1, api.MaxEpochs) && isPlace(m.At) && isPlace(m.Whole) && areHoles(m.Holes, m.Whole.N)
	case kind == api.MailClaim || kind == api.MailGrant:
		rest.Epoch, rest.Site = 0, 0
		nobodys := kind == api.MailGrant && m.Epoch == 0 && m.Site != 0
		return rest, within(m.Epoch, 0, api.MaxEpochs) && isSite(m.Site) && !nobodys
	}
	return m, false
}

// ofPoll is a mail of a site's own nodes without what its kind names, beside the term.
func ofPoll(kind int, m api.Mail) api.Mail {
	if kind != api.MailVote {
		m.Index = 0
	}
	switch kind {
	case api.MailAsk:
		m.Prev = 0
	case api.MailFeed:
		m.Prev, m.Commit, m.Entries = 0, 0, nil
	case api.MailLay:
		m.Prev, m.Data = 0, ""
	default:
		m.Good = false
	}
	return m
}

// pollFits tells whether the lists of such a mail are as they are to be.
func pollFits(m api.Mail) bool {
	for _, x := range m.Entries {
		if !within(x.Term, 1, api.MaxTerm) || len(x.Data) > maxData {
			return false
		}
	}
	return len(m.Entries) <= api.MaxFeed && len(m.Data) <= maxSnap
}

func withinTerms(list ...int) bool {
	for _, n := range list {
		if !within(n, 0, api.MaxTerm) {
			return false
		}
	}
	return true
}

func isSite(n int) bool { return within(n, 0, api.Sites-1) }

func isPlace(at api.Spot) bool {
	return within(at.N, 0, maxN) && within(at.Epoch, 0, api.MaxEpochs) && (at.N == 0) == (at.Epoch == 0)
}

// areHoles tells whether numbers are from 1 to n, each above the one ahead.
func areHoles(list []int, n int) bool {
	ahead := 0
	for _, h := range list {
		if h <= ahead || h > n {
			return false
		}
		ahead = h
	}
	return true
}

func areWants(hashes []string) bool {
	for _, h := range hashes {
		if len(h) != hashSize {
			return false
		}
	}
	return within(len(hashes), 1, api.MaxWants)
}

// areShipped tells whether a mail's operations may go to the other site in its epoch.
func areShipped(m api.Mail) bool {
	for _, o := range m.Ops {
		if o.Epoch > m.Epoch {
			return false
		}
	}
	return len(m.Ops) <= api.MaxFeed && m.At.Epoch <= m.Epoch && deed.Row(m.At, m.Ops...)
}
