package calm

import (
	"slices"

	"redoubt/api"
	"redoubt/world"
)

// watch is how far acts are fair: acts to mend, then rounds.
type watch struct {
	*world.World
	spread int
	rounds int // that are at their end
	begun  bool
	ticked []int            // the nodes whose time went on in this round
	draws  [api.Sites][]int // and their draws modulo Spread, by site
}

// Fair: how many fair rounds acts are.
func Fair(c api.Conf, w *world.World, acts ...api.Act) int {
	if w == nil || w.Lost() != nowhere || c.Spread < 1 {
		return -1
	}
	twin, e := w.Copy()
	if e != api.OK {
		return -1
	}
	f := &watch{World: twin, spread: c.Spread}
	for _, a := range acts {
		if !f.fair(a) || f.Do(a) != api.OK {
			return -1
		}
		f.endRound()
	}
	if !f.begun && !f.allUp() {
		return -1
	}
	return f.rounds
}

// fair tells whether an act may come next, and notes it.
func (f *watch) fair(a api.Act) bool {
	switch a.Kind {
	case api.ActFuse:
		return !f.begun && a.K < 0
	case api.ActStart:
		return !f.begun
	case api.ActTick:
		return (f.begun || f.allUp()) && f.tick(a.Node, a.Draw)
	case api.ActDeliver:
		return len(f.ticked) == nodes
	}
	return false
}

// tick notes that a node's time goes on, if it may.
func (f *watch) tick(id, draw int) bool {
	rest := (draw%f.spread + f.spread) % f.spread
	if !within(id, 0, nodes-1) || slices.Contains(f.ticked, id) || slices.Contains(f.draws[id/api.PerSite], rest) {
		return false
	}
	f.begun = true
	f.ticked = append(f.ticked, id)
	f.draws[id/api.PerSite] = append(f.draws[id/api.PerSite], rest)
	return true
}

// endRound ends a round in which no letter is left.
func (f *watch) endRound() {
	if len(f.ticked) == nodes && f.Mails() == 0 {
		f.rounds++
		f.ticked, f.draws = nil, [api.Sites][]int{}
	}
}

func (f *watch) allUp() bool {
	for id := range nodes + 1 {
		if !f.Up(id) {
			return false
		}
	}
	return true
}
