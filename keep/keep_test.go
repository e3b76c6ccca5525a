package keep_test

import (
	"fmt"
	"math"
	"math/rand"
	"reflect"
	"slices"
	"strings"
	"testing"

	"redoubt/api"
	"redoubt/disk"
	"redoubt/keep"
	"redoubt/pack"
	"redoubt/wal"
)

func same(a, b api.Kept) bool {
	if len(a.Entries) == 0 && len(b.Entries) == 0 {
		a.Entries, b.Entries = nil, nil
	}
	return reflect.DeepEqual(a, b)
}

func open(t *testing.T, d *disk.Disk, want api.Kept, records int) *keep.Keep {
	t.Helper()
	k, got, e := keep.Open(d)
	if e != api.OK || !same(got, want) || k.Records() != records {
		t.Fatalf("opened %d: %+v, %d records", e, got, k.Records())
	}
	return k
}

func refused(t *testing.T, d *disk.Disk, want api.Errno) {
	t.Helper()
	if k, got, e := keep.Open(d); k != nil || !same(got, api.Kept{}) || e != want {
		t.Fatal(e, got)
	}
}

func want(t *testing.T, got, e api.Errno) {
	t.Helper()
	if got != e {
		t.Fatalf("answered %d, not %d", got, e)
	}
}

func log(t *testing.T, d *disk.Disk) (string, []string) {
	t.Helper()
	_, base, records, e := wal.Open(d)
	if e != api.OK {
		t.Fatal(e)
	}
	return base, records
}

// lay is a drive whose log has that base and these records.
func lay(t *testing.T, base string, records ...string) *disk.Disk {
	t.Helper()
	d := disk.New()
	l, _, _, _ := wal.Open(d)
	want(t, l.Lay(base), api.OK)
	want(t, l.Append(records...), api.OK)
	return d
}

func bytesOf(k api.Kept) string {
	s := pack.Nums(k.Term, k.Vote, k.Base, k.BaseTerm, len(k.Entries)) + pack.Text(k.Snap)
	for _, x := range k.Entries {
		s += pack.Nums(x.Term) + pack.Text(x.Data)
	}
	return s
}

func entries(terms ...int) []api.Entry {
	var list []api.Entry
	for i, term := range terms {
		list = append(list, api.Entry{Term: term, Data: fmt.Sprint("e", i)})
	}
	return list
}

func TestOpen(t *testing.T) { // P14.1
	refused(t, nil, api.ErrNil)
	d := disk.New()
	d.Fuse(0)
	d.Append("a", "")
	refused(t, d, api.ErrDown)
	open(t, disk.New(), api.Kept{Vote: -1}, 0)
	k := api.Kept{Term: 5, Vote: 2, Base: 7, BaseTerm: 3, Snap: "snap", Entries: entries(3, 4)}
	open(t, lay(t, bytesOf(k)), k, 0)
	open(t, lay(t, ""), api.Kept{Vote: -1}, 0)
	want := k
	want.Term, want.Vote = 6, -1
	want.Entries = append(entries(3), api.Entry{Term: 6, Data: "new"})
	open(t, lay(t, bytesOf(k), pack.Nums(1, 6, -1), pack.Nums(2, 9), pack.Nums(3, 6)+pack.Text("new")), want, 3)
	open(t, lay(t, "", pack.Nums(3, 1)+pack.Text(""), pack.Nums(2, 2), pack.Nums(2, 1), pack.Nums(1, 1, 0)), api.Kept{Term: 1}, 4)
	for i, base := range []string{"\x00", bytesOf(k) + "\x00", bytesOf(k)[:len(bytesOf(k))-1], "x", pack.Nums(1, 0, 0, 0, 1) + pack.Text(""), pack.Nums(1, 0, 0, 0, -1) + pack.Text(""), pack.Nums(1, 0, 0, 0, math.MaxInt) + pack.Text("")} {
		d := lay(t, base)
		refused(t, d, api.ErrForm)
		if len(d.Names("")) != 1 {
			t.Fatal(i)
		}
	}
	for _, record := range []string{"", pack.Nums(0), pack.Nums(4, 1), pack.Nums(1), pack.Nums(1, 2), pack.Nums(1, 2, 0, 0), pack.Nums(2), pack.Nums(2, 8, 0), pack.Nums(2, 7), pack.Nums(2, 11), pack.Nums(2, 0), pack.Nums(2, -1), pack.Nums(2, math.MinInt), pack.Nums(2, math.MaxInt), pack.Nums(3), pack.Nums(3, 1), pack.Nums(3, 1) + pack.Text("x") + "y", pack.Nums(3, 1) + "\x08abc", "\x80\x00"} {
		refused(t, lay(t, bytesOf(k), record), api.ErrForm)
		refused(t, lay(t, bytesOf(k), pack.Nums(1, 9, 1), record, pack.Nums(1, 9, 1)), api.ErrForm)
	}
	for from := 8; from <= 10; from++ {
		want := k
		want.Entries = k.Entries[:from-8]
		open(t, lay(t, bytesOf(k), pack.Nums(2, from)), want, 1)
	}
	low := api.Kept{Base: math.MinInt, Entries: entries(1)}
	refused(t, lay(t, bytesOf(low), pack.Nums(2, math.MaxInt)), api.ErrForm)
	high := api.Kept{Base: math.MaxInt, Entries: entries(1)}
	refused(t, lay(t, bytesOf(high), pack.Nums(2, math.MinInt)), api.ErrForm)
}

func TestSave(t *testing.T) { // P14.2
	d := disk.New()
	k := open(t, d, api.Kept{Vote: -1}, 0)
	want(t, k.Save(api.Save{Term: 1, Vote: 0, From: 1, Entries: []api.Entry{{Term: 1, Data: "x"}}}), api.OK)
	if d.Steps() != 2 || k.Records() != 3 {
		t.Fatal("three records, in one Append", d.Steps(), k.Records())
	}
	if _, r := log(t, d); !slices.Equal(r, []string{pack.Nums(1, 1, 0), pack.Nums(2, 1), pack.Nums(3, 1) + pack.Text("x")}) {
		t.Fatal(r)
	}
	open(t, d, api.Kept{Term: 1, Entries: []api.Entry{{Term: 1, Data: "x"}}}, 3)
	want(t, k.Save(api.Save{Term: 2, Vote: -1}), api.OK)
	if _, r := log(t, d); len(r) != 4 || r[3] != pack.Nums(1, 2, -1) {
		t.Fatal(r)
	}
	want(t, k.Save(api.Save{Term: 2, Vote: -1, Entries: entries(2)}), api.OK)
	want(t, k.Save(api.Save{Term: 2, Vote: -1, From: -5}), api.OK)
	open(t, d, api.Kept{Term: 2, Vote: -1, Entries: []api.Entry{{Term: 1, Data: "x"}, {Term: 2, Data: "e0"}}}, 7)
	for n, appends := range map[int]int{5: 1, 6: 1, 7: 2, 14: 2, 15: 3, 22: 3, 23: 4} {
		d := disk.New()
		k := open(t, d, api.Kept{Vote: -1}, 0)
		list := entries(slices.Repeat([]int{1}, n)...)
		want(t, k.Save(api.Save{Term: 1, From: 1, Entries: list}), api.OK)
		if d.Steps() != 2*appends || k.Records() != n+2 {
			t.Fatal("groups as great as may be, of at most eight", n, d.Steps())
		}
		open(t, d, api.Kept{Term: 1, Entries: list}, n+2)
	}
}

func TestSaveLong(t *testing.T) { // P14.2
	d := disk.New()
	k := open(t, d, api.Kept{Vote: -1}, 0)
	long := api.Entry{Term: 1, Data: strings.Repeat("x", 8189)} // a record of 8193 bytes
	want(t, k.Save(api.Save{Term: 1, From: 1, Entries: append(entries(1, 1, 1), long)}), api.ErrLong)
	if k.Records() != 0 {
		t.Fatal("of its group nothing is put")
	}
	open(t, d, api.Kept{Vote: -1}, 0)
	want(t, k.Save(api.Save{Term: 1, From: 1, Entries: append(entries(1, 1, 1, 1, 1, 1, 1), long)}), api.ErrLong)
	open(t, d, api.Kept{Term: 1, Entries: entries(1, 1, 1, 1, 1, 1)}, 8)
	if k.Records() != 8 {
		t.Fatal("what was put of earlier groups stays", k.Records())
	}
	fits := api.Entry{Term: 1, Data: strings.Repeat("x", 8188)}
	want(t, k.Save(api.Save{Term: 1, From: 1, Entries: []api.Entry{fits}}), api.OK)
	// eight entries as long as a node has them are one group
	d = disk.New()
	k = open(t, d, api.Kept{Vote: -1}, 0)
	var six []api.Entry
	for range 6 {
		six = append(six, api.Entry{Term: 1 << 40, Data: strings.Repeat("y", 8000)})
	}
	want(t, k.Save(api.Save{Term: 1 << 40, Vote: 2, From: 1, Entries: six}), api.OK)
	if d.Steps() != 2 {
		t.Fatal(d.Steps())
	}
	open(t, d, api.Kept{Term: 1 << 40, Vote: 2, Entries: six}, 8)
}

func TestLayAndRecords(t *testing.T) { // P14.3
	d := disk.New()
	k := open(t, d, api.Kept{Vote: -1}, 0)
	want(t, k.Save(api.Save{Term: 1, Vote: 1, From: 1, Entries: entries(1, 1)}), api.OK)
	x := api.Kept{Term: 9, Vote: -1, Base: 3, BaseTerm: 2, Snap: "s", Entries: entries(4, 5)}
	want(t, k.Lay(x), api.OK)
	if k.Records() != 0 {
		t.Fatal(k.Records())
	}
	if base, r := log(t, d); base != bytesOf(x) || len(r) != 0 || !slices.Equal(d.Names(""), []string{"log.2"}) {
		t.Fatalf("%x", base)
	}
	want(t, k.Save(api.Save{Term: 9, Vote: 1}), api.OK)
	if k.Records() != 1 {
		t.Fatal(k.Records())
	}
	want(t, k.Lay(api.Kept{Snap: strings.Repeat("s", 1<<19)}), api.ErrLong)
	if k.Records() != 1 {
		t.Fatal(k.Records())
	}
	x.Vote = 1
	open(t, d, x, 1)
	want(t, k.Lay(api.Kept{}), api.OK)
	open(t, d, api.Kept{}, 0)
}

func TestNilAndDown(t *testing.T) { // P14.4
	var k *keep.Keep
	want(t, k.Save(api.Save{}), api.ErrNil)
	want(t, k.Lay(api.Kept{}), api.ErrNil)
	if k.Records() != 0 {
		t.Fatal("a nil one")
	}
	for fuse := range 2 {
		d := disk.New()
		k := open(t, d, api.Kept{Vote: -1}, 0)
		d.Fuse(fuse)
		want(t, k.Save(api.Save{}), api.ErrDown)
		d.Crash()
		k = open(t, d, api.Kept{Vote: -1}, 0)
		d.Fuse(fuse)
		want(t, k.Lay(api.Kept{}), api.ErrDown)
	}
}

// after is what is kept behind the first n records of a Save.
func after(k api.Kept, s api.Save, n int) api.Kept {
	k.Entries = slices.Clone(k.Entries)
	var records []func()
	records = append(records, func() { k.Term, k.Vote = s.Term, s.Vote })
	if s.From > 0 {
		records = append(records, func() { k.Entries = k.Entries[:s.From-k.Base-1] })
	}
	for _, x := range s.Entries {
		records = append(records, func() { k.Entries = append(k.Entries, x) })
	}
	for _, r := range records[:min(n, len(records))] {
		r()
	}
	return k
}

func TestPowerGoes(t *testing.T) { // P14.5
	for seed := range 300 {
		rnd := rand.New(rand.NewSource(int64(seed)))
		d := disk.New()
		sure := api.Kept{Vote: -1}
		var may []api.Kept
		for range 10 {
			k, got, e := keep.Open(d)
			if e != api.OK || !same(got, sure) && !slices.ContainsFunc(may, func(m api.Kept) bool { return same(got, m) }) {
				t.Fatal(seed, e, got)
			}
			sure, may = got, nil
			d.Fuse(rnd.Intn(12))
			for e == api.OK {
				if rnd.Intn(5) == 0 {
					x := sure
					if n := len(x.Entries); n > 0 {
						drop := 1 + rnd.Intn(n)
						x.Base, x.BaseTerm, x.Snap, x.Entries = x.Base+drop, x.Entries[drop-1].Term, strings.Repeat("s", rnd.Intn(2500)), slices.Clone(x.Entries[drop:])
					}
					if e = k.Lay(x); e == api.OK {
						sure = x
					} else {
						may = append(may, x)
					}
					continue
				}
				s := api.Save{Term: max(1, sure.Term+rnd.Intn(2)), Vote: rnd.Intn(4) - 1}
				if rnd.Intn(2) == 0 {
					s.From = sure.Base + 1 + rnd.Intn(len(sure.Entries)+1)
				}
				for range rnd.Intn(14) {
					s.Entries = append(s.Entries, api.Entry{Term: s.Term, Data: strings.Repeat("d", rnd.Intn(400))})
				}
				if e = k.Save(s); e == api.OK {
					sure = after(sure, s, 99)
				} else {
					for n := range 17 {
						may = append(may, after(sure, s, n))
					}
				}
			}
			want(t, e, api.ErrDown)
			d.Crash(rnd.Intn(3000)-300, rnd.Intn(3000))
		}
	}
}
