package poll

import (
	"slices"

	"redoubt/api"
)

// kept is what a node must not forget.
type kept struct {
	api.Kept
}

// mayBeKept tells whether a node may begin with that.
func mayBeKept(k api.Kept) bool {
	if !within(k.Term, 0, api.MaxTerm) || !within(k.Vote, nobody, api.PerSite-1) || !within(k.Base, 0, api.MaxTerm) {
		return false
	}
	if (k.Base == 0) != (k.BaseTerm == 0) || k.BaseTerm < 0 || k.BaseTerm > k.Term || len(k.Snap) > maxSnap {
		return false
	}
	return rising(k.Entries, k.BaseTerm, k.Term)
}

// rising tells whether the entries' terms never fall, from low on, are above 0 and at most high, and no entry has too many bytes.
func rising(list []api.Entry, low, high int) bool {
	for _, e := range list {
		if e.Term < low || e.Term < 1 || e.Term > high || len(e.Data) > maxData {
			return false
		}
		low = e.Term
	}
	return true
}

func (k *kept) last() int { return k.Base + len(k.Entries) }

func (k *kept) lastTerm() int {
	term, _ := k.termAt(k.last())
	return term
}

// at is the entry of a number behind the base.
func (k *kept) at(index int) api.Entry { return k.Entries[index-k.Base-1] }

// behind is the entries behind that of a number, which isn't below the base.
func (k *kept) behind(index int) []api.Entry {
	return k.Entries[min(index-k.Base, len(k.Entries)):]
}

func (k *kept) termAt(index int) (int, bool) {
	switch {
	case index == k.Base:
		return k.BaseTerm, true
	case index > k.Base && index <= k.last():
		return k.at(index).Term, true
	}
	return 0, false
}

// lay makes a snapshot the base. Entries behind it stay, if the log has the one of that term there.
func (k *kept) lay(index, term int, snap string) {
	var stay []api.Entry
	if t, ok := k.termAt(index); ok && t == term {
		stay = slices.Clone(k.behind(index))
	}
	k.Base, k.BaseTerm, k.Snap, k.Entries = index, term, snap, stay
}
