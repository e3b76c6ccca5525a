package script

import "redoubt/api"

// writer writes an act's bytes; it is wrong once something can't be written.
type writer struct {
	out   []byte
	wrong bool
}

func (w *writer) nums(list ...int) {
	for _, n := range list {
		w.wrong = w.wrong || n < 0 || n > 255
		w.out = append(w.out, byte(n))
	}
}

func (w *writer) pair(n int) {
	w.wrong = w.wrong || n < 0 || n > 65535
	w.out = append(w.out, byte(n), byte(n>>8))
}

// printed is an act's bytes; false, if it can't be written.
func printed(a api.Act) ([]byte, bool) {
	w := &writer{}
	w.nums(a.Kind)
	rest := a
	rest.Kind = 0
	switch a.Kind {
	case api.ActAsk:
		w.ask(a)
		rest.Node, rest.Ask = 0, api.Ask{}
	case api.ActDeliver, api.ActDrop, api.ActTwin, api.ActLose:
		w.nums(a.K)
		rest.K = 0
	case api.ActTick:
		w.nums(a.Node, a.Draw)
		rest.Node, rest.Draw = 0, 0
	case api.ActCrash, api.ActStart:
		w.wrong = w.wrong || len(a.Keeps) >= keepsMod
		w.nums(a.Node, len(a.Keeps))
		w.nums(a.Keeps...)
		rest.Node, rest.Keeps = 0, nil
	case api.ActFuse:
		w.nums(a.Node, a.K)
		rest.Node, rest.K = 0, 0
	case api.ActFlip:
		w.nums(a.Node, a.K)
		w.pair(a.Draw)
		rest.Node, rest.K, rest.Draw = 0, 0, 0
	default:
		return nil, false
	}
	return w.out, !w.wrong && isNone(rest)
}

func (w *writer) ask(a api.Act) {
	x := a.Ask
	w.wrong = w.wrong || len(x.Name) >= nameMod || len(x.Data) >= dataMod
	w.nums(a.Node, x.Kind, x.Client, x.Seq, x.Mode, x.Lag, len(x.Name))
	w.out = append(w.out, x.Name...)
	w.pair(len(x.Data))
	w.out = append(w.out, x.Data...)
}

// isNone tells whether nothing is in an act.
func isNone(a api.Act) bool {
	return a.Kind == 0 && a.Node == 0 && a.K == 0 && a.Draw == 0 && len(a.Keeps) == 0 && a.Ask == api.Ask{}
}
