package model

import (
	"slices"

	"redoubt/api"
	"redoubt/sheet"
)

// Judge: may a request be answered so?
func (m *Model) Judge(a api.Ask, x api.Reply) api.Errno {
	switch {
	case m == nil:
		return api.ErrNil
	case x.Err == api.OK:
		return m.judgeOK(a, x)
	case x.Err == api.ErrNotFound && a.Kind == api.AskRestore:
		return m.judgeNotFound(a, x)
	case len(x.Names) > 0 || x.Data != "":
		return api.ErrDenied
	}
	return api.OK
}

func (m *Model) judgeOK(a api.Ask, x api.Reply) api.Errno {
	switch a.Kind {
	case api.AskPut, api.AskDrop:
		return m.judgeDone(a, x.At)
	case api.AskList:
		names, ok := m.Names(x.At)
		return verdict(ok, slices.Equal(names, x.Names))
	case api.AskRestore:
		o, live := m.Find(x.At, a.Name)
		return verdict(m.has(x.At), live && m.wasPut(o, x.Data))
	case api.AskReign, api.AskLost:
		return api.OK
	}
	return api.ErrDenied
}

// verdict is what is said where a place is there, and what was told of it is so.
func verdict(there, so bool) api.Errno {
	switch {
	case !there:
		return api.ErrNone
	case !so:
		return api.ErrDenied
	}
	return api.OK
}

// judgeDone judges that a put or a drop is the operation at a place.
func (m *Model) judgeDone(a api.Ask, at api.Spot) api.Errno {
	o, ok := m.tree[at]
	return verdict(ok, o.Kind != api.OpReign && o.Client == a.Client && o.Seq == a.Seq)
}

func (m *Model) judgeNotFound(a api.Ask, x api.Reply) api.Errno {
	_, live := m.Find(x.At, a.Name)
	return verdict(m.has(x.At), !live)
}

// wasPut tells whether bytes are among those of a put.
func (m *Model) wasPut(o api.Op, data string) bool {
	if !slices.Contains(m.puts[asker{o.Client, o.Seq, o.Name}], data) {
		return false
	}
	s, e := sheet.Make(data)
	return e == api.OK && sameSheet(s, o.Sheet)
}
