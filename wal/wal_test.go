package wal_test

import (
	"math/rand"
	"slices"
	"strings"
	"testing"

	"redoubt/api"
	"redoubt/disk"
	"redoubt/frame"
	"redoubt/pack"
	"redoubt/wal"
)

func seal(parts ...string) string {
	s, e := frame.Seal(parts...)
	if e != api.OK {
		panic(e)
	}
	return s
}

func begin(base string) string { return seal(pack.Nums(1) + pack.Text(base)) }

func goOn(n int) string { return seal(pack.Nums(2, n)) }

// lay is a drive with these files, all of which last.
func lay(files ...string) *disk.Disk {
	d := disk.New()
	for i := 0; i < len(files); i += 2 {
		d.Append(files[i], files[i+1])
		d.Sync(files[i])
	}
	return d
}

func open(t *testing.T, d *disk.Disk, base string, records ...string) *wal.Log {
	t.Helper()
	l, b, r, e := wal.Open(d)
	if e != api.OK || b != base || !slices.Equal(r, records) {
		t.Fatalf("opened %d: base %.20q, %d records %.40q", e, b, len(r), r)
	}
	return l
}

func want(t *testing.T, got, e api.Errno) {
	t.Helper()
	if got != e {
		t.Fatalf("answered %d, not %d", got, e)
	}
}

func has(t *testing.T, d *disk.Disk, name, s string) {
	t.Helper()
	if got, ok := d.Read(name); got != s || !ok {
		t.Fatalf("%s has %d bytes, %x", name, len(got), got)
	}
}

func TestOpenRefused(t *testing.T) { // P9.1
	if l, b, r, e := wal.Open(nil); l != nil || b != "" || r != nil || e != api.ErrNil {
		t.Fatal(e)
	}
	d := lay("log.1", begin("x"))
	d.Fuse(0)
	d.Remove("log.1")
	if l, b, r, e := wal.Open(d); l != nil || b != "" || r != nil || e != api.ErrDown {
		t.Fatal(e)
	}
}

func TestOpenTidies(t *testing.T) { // P9.1
	files := []string{"log.0", begin("n"), "log.01", begin("n"), "log.a", "", "log.", begin("n"), "log.1000000000", begin("n"), "log.1.", begin("n"), "log.3", begin("old"), "log.5", begin("b") + seal("r1"), "log.6", goOn(len(begin("b") + seal("r1"))), "log.7", begin("cut")[:4], "logx", "stays", "b.1", "stays"}
	d := lay(files...)
	steps := d.Steps()
	l := open(t, d, "b", "r1")
	if l.Segment() != 6 || d.Steps() != steps+8 {
		t.Fatal(l.Segment(), d.Steps()-steps)
	}
	if got := d.Names(""); !slices.Equal(got, []string{"b.1", "log.5", "log.6", "logx"}) {
		t.Fatal(got)
	}
	d = lay(files...)
	d.Fuse(3)
	if l, b, r, e := wal.Open(d); l != nil || b != "" || r != nil || e != api.ErrDown {
		t.Fatal(e)
	}
	d.Crash()
	if got := d.Names("log."); !slices.Equal(got, []string{"log.1.", "log.1000000000", "log.3", "log.5", "log.6", "log.7", "log.a"}) {
		t.Fatal("by rising name", got)
	}
	open(t, d, "b", "r1")
	open(t, lay("log.2", goOn(4)+seal("x"), "log.4", "garbage"), "")
}

func TestWhatCounts(t *testing.T) { // P9.1
	one := begin("base") + seal("a", "b")
	two := goOn(len(one)) + seal("c")
	open(t, lay("log.1", one), "base", "a", "b")
	open(t, lay("log.1", one+"torn"), "base", "a", "b")
	open(t, lay("log.1", one+"torn", "log.2", two), "base", "a", "b", "c")
	open(t, lay("log.1", one+seal("z"), "log.2", two), "base", "a", "b", "c")
	short := begin("base") + seal("a")
	open(t, lay("log.1", one, "log.2", goOn(len(short))+seal("c")), "base", "a", "c")
	open(t, lay("log.1", one, "log.2", goOn(len(begin("base")))+seal("c")), "base", "c")
	for _, n := range []int{0, -1, 1, len(one) - 1, len(one) + 1, -1 << 63, 1<<63 - 1} {
		open(t, lay("log.1", one, "log.2", goOn(n)+seal("c")), "base", "a", "b")
	}
	open(t, lay("log.1", one, "log.3", two), "base", "a", "b")
	open(t, lay("log.1", one, "log.2", two[:4]), "base", "a", "b")
	open(t, lay("log.1", one, "log.2", two, "log.3", goOn(len(two))+seal("d", "e")), "base", "a", "b", "c", "d", "e")
	open(t, lay("log.1", one, "log.2", begin("new")), "new")
	open(t, lay("log.9", begin("nine"), "log.10", begin("ten")), "ten")
	open(t, lay("log.10", begin("ten"), "log.9", begin("nine")+seal("x")), "ten")
	// heads that are none
	for _, head := range []string{seal(pack.Nums(1)), seal(pack.Nums(1) + pack.Text("x") + "y"), seal(pack.Nums(3) + pack.Text("x")), seal(""), seal(pack.Nums(2) + pack.Text("x")), begin("x")[:6]} {
		open(t, lay("log.1", one, "log.2", head+seal("z")), "base", "a", "b")
	}
	for _, head := range []string{pack.Nums(2, len(one), 0), pack.Nums(3, len(one)), pack.Nums(1, len(one)), pack.Nums(0, len(one)), pack.Nums(2) + pack.Text("x")} {
		open(t, lay("log.1", one, "log.2", seal(head)+seal("c")), "base", "a", "b")
	}
	open(t, lay("log.999999999", begin("last")+seal("x")), "last", "x")
	end := begin("last") + seal("x")
	open(t, lay("log.999999999", end, "log.1000000000", goOn(len(end))+seal("y")), "last", "x")
}

func TestAppend(t *testing.T) { // P9.2
	d := disk.New()
	l := open(t, d, "")
	if l.Segment() != 0 {
		t.Fatal(l.Segment())
	}
	want(t, l.Append(), api.OK)
	if d.Steps() != 0 {
		t.Fatal("without records nothing is done")
	}
	want(t, l.Append("ab"), api.OK)
	has(t, d, "log.1", seal("\x02\x00", "ab"))
	want(t, l.Append("", "c"), api.OK)
	has(t, d, "log.1", begin("")+seal("ab", "", "c"))
	if l.Segment() != 1 || d.Steps() != 4 {
		t.Fatal(l.Segment(), d.Steps())
	}
	d.Crash()
	open(t, d, "", "ab", "", "c")
	big := strings.Repeat("x", 8192)
	want(t, l.Append("a", big+"y"), api.ErrLong)
	want(t, l.Append(strings.Repeat("y", 1<<20+1)), api.ErrLong)
	eight := slices.Repeat([]string{big}, 8)
	want(t, l.Append(eight...), api.ErrLong)
	has(t, d, "log.1", begin("")+seal("ab", "", "c"))
	want(t, l.Append(eight[:7]...), api.OK)
	l = open(t, d, "", append([]string{"ab", "", "c"}, eight[:7]...)...)
	if l.Segment() != 1 {
		t.Fatal(l.Segment())
	}
	one, _ := d.Read("log.1")
	want(t, l.Append("next"), api.OK)
	has(t, d, "log.2", goOn(len(one))+seal("next"))
	has(t, d, "log.1", one)
	fit := 1<<16 - 7*len(seal(big))
	d = disk.New()
	l = open(t, d, "")
	last := strings.Repeat("z", fit-6)
	if len(seal(append(slices.Clone(eight[:7]), last)...)) != 1<<16 {
		t.Fatal("the test's own sum")
	}
	want(t, l.Append(append(slices.Clone(eight[:7]), last+"z")...), api.ErrLong)
	want(t, l.Append(append(slices.Clone(eight[:7]), last)...), api.OK)
}

func TestSegmentsEnd(t *testing.T) { // P9.2
	for _, size := range []int{2047, 2048, 2049} {
		d := disk.New()
		l := open(t, d, "")
		text := strings.Repeat("q", size-len(begin(""))-6)
		want(t, l.Append(text), api.OK)
		has(t, d, "log.1", begin("")+seal(text))
		one, _ := d.Read("log.1")
		if len(one) != size {
			t.Fatal(len(one))
		}
		want(t, l.Append("more"), api.OK)
		segment := 2
		if size < 2048 {
			segment = 1
		}
		if l.Segment() != segment {
			t.Fatal(size, l.Segment())
		}
		open(t, d, "", text, "more")
	}
	d := lay("log.1", begin("x")+seal("a")+"torn")
	l := open(t, d, "x", "a")
	want(t, l.Append("b"), api.OK)
	has(t, d, "log.2", goOn(len(begin("x")+seal("a")))+seal("b"))
	want(t, l.Append("c"), api.OK)
	has(t, d, "log.2", goOn(len(begin("x")+seal("a")))+seal("b", "c"))
	open(t, d, "x", "a", "b", "c")
	d = lay("log.999999999", begin("x")+"torn")
	l = open(t, d, "x")
	steps := d.Steps()
	want(t, l.Append("b"), api.ErrFull)
	want(t, l.Append(), api.OK)
	want(t, l.Lay("b"), api.ErrFull)
	want(t, l.Append(strings.Repeat("x", 8193)), api.ErrLong)
	want(t, l.Lay(strings.Repeat("x", 1<<19+1)), api.ErrLong)
	if d.Steps() != steps || l.Segment() != 999999999 {
		t.Fatal("what is refused changes nothing")
	}
	d = lay("log.999999999", begin("x"))
	l = open(t, d, "x")
	want(t, l.Append("still"), api.OK)
	want(t, l.Lay("b"), api.ErrFull)
	open(t, d, "x", "still")
	d = lay("log.999999998", begin("x")+"torn")
	l = open(t, d, "x")
	want(t, l.Append("b"), api.OK)
	if l.Segment() != 999999999 {
		t.Fatal(l.Segment())
	}
	open(t, d, "x", "b")
}

func TestLay(t *testing.T) { // P9.3
	d := disk.New()
	l := open(t, d, "")
	want(t, l.Append("ab"), api.OK)
	want(t, l.Lay("x"), api.OK)
	has(t, d, "log.2", seal("\x02\x02x"))
	if l.Segment() != 2 || !slices.Equal(d.Names(""), []string{"log.2"}) {
		t.Fatal(d.Names(""))
	}
	want(t, l.Append("c"), api.OK)
	open(t, d, "x", "c")
	d = disk.New()
	l = open(t, d, "")
	want(t, l.Lay(""), api.OK)
	if l.Segment() != 1 {
		t.Fatal(l.Segment())
	}
	has(t, d, "log.1", begin(""))
	long := strings.Repeat("y", 1<<19)
	want(t, l.Lay(long+"z"), api.ErrLong)
	has(t, d, "log.1", begin(""))
	want(t, l.Lay(long), api.OK)
	want(t, l.Append("behind"), api.OK)
	if l.Segment() != 3 {
		t.Fatal("a base of that length ends its segment", l.Segment())
	}
	d.Crash()
	l = open(t, d, long, "behind")
	steps := d.Steps()
	want(t, l.Lay("short"), api.OK)
	if d.Steps() != steps+4 {
		t.Fatal(d.Steps() - steps)
	}
	open(t, d, "short")
	for i := range 5 {
		want(t, l.Lay(strings.Repeat("n", i)), api.OK)
		want(t, l.Append("r"), api.OK)
		if len(d.Names("")) != 1 {
			t.Fatal(d.Names(""))
		}
	}
	open(t, d, "nnnn", "r")
	// the others go by rising number
	d = lay("log.9", begin("b")+"torn", "log.10", goOn(len(begin("b"))))
	l = open(t, d, "b")
	d.Fuse(3)
	want(t, l.Lay("new"), api.ErrDown)
	d.Crash()
	if !slices.Equal(d.Names(""), []string{"log.10", "log.11"}) {
		t.Fatal(d.Names(""))
	}
	open(t, d, "new")
}

func TestDownAndNil(t *testing.T) { // P9.2 to P9.4
	for fuse := range 2 {
		d := disk.New()
		l := open(t, d, "")
		d.Fuse(fuse)
		want(t, l.Append("x"), api.ErrDown)
		d = disk.New()
		l = open(t, d, "")
		d.Fuse(fuse)
		want(t, l.Lay("x"), api.ErrDown)
	}
	var l *wal.Log
	want(t, l.Append("x"), api.ErrNil)
	want(t, l.Append(), api.ErrNil)
	want(t, l.Lay(strings.Repeat("x", 1<<20)), api.ErrNil)
	if l.Segment() != 0 {
		t.Fatal("a nil log")
	}
}

// state is a base and records.
type state struct {
	base    string
	records []string
}

func (s state) is(base string, records []string) bool {
	return s.base == base && slices.Equal(s.records, records)
}

// TestPowerGoes plays appends and lays, whose power goes at any step, and holds what is found against what may be.
func TestPowerGoes(t *testing.T) { // P9.5
	for seed := range 400 {
		rnd := rand.New(rand.NewSource(int64(seed)))
		d := disk.New()
		var sure state
		var may []state // what may be found beside that
		for range 12 {
			l, base, records, e := wal.Open(d)
			if e != api.OK {
				t.Fatal(seed, e)
			}
			ok := sure.is(base, records)
			for _, m := range may {
				ok = ok || m.is(base, records)
			}
			if !ok {
				t.Fatal(seed, base, len(records), sure.base, len(sure.records))
			}
			sure, may = state{base, records}, nil
			if _, b, r, e := wal.Open(d); e != api.OK || !sure.is(b, r) {
				t.Fatal(seed, "opened at once again")
			}
			d.Fuse(rnd.Intn(12))
			for {
				if rnd.Intn(6) == 0 {
					b := strings.Repeat("B", rnd.Intn(3000))
					if e := l.Lay(b); e != api.OK {
						want(t, e, api.ErrDown)
						may = append(may, state{b, nil})
						break
					}
					sure = state{b, nil}
					continue
				}
				var list []string
				for range 1 + rnd.Intn(4) {
					list = append(list, strings.Repeat(string([]byte{byte(rnd.Intn(256))}), rnd.Intn(900)))
				}
				if e := l.Append(list...); e != api.OK {
					want(t, e, api.ErrDown)
					for n := range list {
						may = append(may, state{sure.base, append(slices.Clone(sure.records), list[:n+1]...)})
					}
					break
				}
				sure.records = append(slices.Clone(sure.records), list...)
			}
			d.Crash(rnd.Intn(2000)-200, rnd.Intn(50), rnd.Intn(2000))
			for rnd.Intn(3) == 0 { // it goes again, while the log is opened
				d.Fuse(rnd.Intn(2))
				wal.Open(d)
				d.Crash(rnd.Intn(100))
			}
		}
	}
}
