package ledger

import (
	"strings"

	"redoubt/api"
	"redoubt/deed"
	"redoubt/pack"
)

// Pack: it as bytes.
func (l *Ledger) Pack() string {
	if l == nil {
		return ""
	}
	var out strings.Builder
	out.WriteString(pack.Nums(l.fence, l.settled))
	out.WriteString(deed.PackOps(l.ops...))
	out.WriteString(pack.Nums(len(l.lost)))
	for _, o := range l.lost {
		out.WriteString(pack.Nums(o.N, o.Epoch, o.Kind, o.Site, o.Client, o.Seq, o.Sheet.Size))
		out.WriteString(pack.Text(o.Name))
	}
	return out.String()
}

// Load: the one of bytes.
func Load(quota, room int, s string) (*Ledger, api.Errno) {
	l, e := New(quota, room)
	if e != api.OK {
		return nil, e
	}
	r := pack.Read(s)
	l.fence = r.Num()
	l.settled = r.Num()
	l.ops = readOps(r, s)
	l.lost = readLost(r)
	if !r.Done() || !l.fits() {
		return nil, api.ErrForm
	}
	l.shelf = shelfOf(l.ops)
	return l, api.OK
}

// fits tells whether what was read may be a ledger.
func (l *Ledger) fits() bool {
	return deed.Row(api.Spot{}, l.ops...) && l.fence >= l.Last().Epoch && l.fence <= api.MaxEpochs && l.settled >= 0 && l.settled <= len(l.ops)
}

// readOps reads the operations that stand next in s: how far they go is found first, since layer 11 reads only bytes that are nothing else.
func readOps(r *pack.Reader, s string) []api.Op {
	if !r.Good() {
		return nil
	}
	from := len(s) - r.Left()
	for range r.Count() {
		for range 6 {
			r.Num()
		}
		r.Text()
		r.Text()
		if !r.Good() {
			return nil
		}
	}
	if !r.Good() {
		return nil
	}
	ops, e := deed.ParseOps(s[from : len(s)-r.Left()])
	if e != api.OK {
		r.Spoil()
	}
	return ops
}

func readLost(r *pack.Reader) []api.Op {
	var list []api.Op
	for range r.Count() {
		var o api.Op
		o.N = r.Num()
		o.Epoch = r.Num()
		o.Kind = r.Num()
		o.Site = r.Num()
		o.Client = r.Num()
		o.Seq = r.Num()
		o.Sheet.Size = r.Num()
		o.Name = r.Text()
		if !r.Good() || !lostFits(o) {
			r.Spoil()
			return nil
		}
		list = append(list, o)
	}
	return list
}

func lostFits(o api.Op) bool {
	return within(o.N, 1, maxOps) && within(o.Epoch, 1, api.MaxEpochs) && within(o.Kind, api.OpPut, api.OpReign) && within(o.Site, 0, api.Sites-1) &&
		within(o.Client, 0, api.MaxClients-1) && within(o.Seq, 0, api.MaxSeq) && within(o.Sheet.Size, 0, api.MaxBackup) && len(o.Name) <= api.MaxName
}

// within tells whether n is low to high.
func within(n, low, high int) bool { return low <= n && n <= high }
