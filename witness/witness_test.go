package witness_test

import (
	"math"
	"math/rand"
	"slices"
	"testing"

	"redoubt/api"
	"redoubt/disk"
	"redoubt/pack"
	"redoubt/wal"
	"redoubt/witness"
)

func open(t *testing.T, d *disk.Disk, epochs int, g api.Grant) *witness.Witness {
	t.Helper()
	w, e := witness.Open(d, epochs)
	if e != api.OK || w.Grant() != g {
		t.Fatal(e, w.Grant())
	}
	return w
}

func claim(t *testing.T, w *witness.Witness, epoch, site int, g api.Grant, e api.Errno) {
	t.Helper()
	if got, err := w.Claim(epoch, site); got != g || err != e {
		t.Fatal(epoch, site, got, err)
	}
}

func grant(epoch, site int) api.Grant { return api.Grant{Epoch: epoch, Site: site} }

// lay is a drive whose log has that base and these records.
func lay(base string, records ...string) *disk.Disk {
	d := disk.New()
	l, _, _, _ := wal.Open(d)
	if base != "" {
		l.Lay(base)
	}
	l.Append(records...)
	return d
}

func TestOpen(t *testing.T) { // P20.1
	refused := func(d *disk.Disk, epochs int, want api.Errno) {
		t.Helper()
		if w, e := witness.Open(d, epochs); w != nil || e != want {
			t.Fatal(e)
		}
	}
	for _, n := range []int{0, 17, -1, math.MaxInt} {
		refused(disk.New(), n, api.ErrArg)
		refused(nil, n, api.ErrArg)
	}
	refused(nil, 16, api.ErrNil)
	d := disk.New()
	d.Fuse(0)
	d.Append("x", "")
	refused(d, 1, api.ErrDown)
	open(t, disk.New(), 1, grant(0, 0))
	open(t, lay("", pack.Nums(1, 1), pack.Nums(2, 0), pack.Nums(3, 1)), 1, grant(3, 1))
	for _, records := range [][]string{{""}, {pack.Nums(0, 0)}, {pack.Nums(2, 0)}, {pack.Nums(1, 2)}, {pack.Nums(1, -1)}, {pack.Nums(1)}, {pack.Nums(1, 0, 0)}, {pack.Nums(1, 0), pack.Nums(1, 0)}, {pack.Nums(1, 0), pack.Nums(3, 0)}, {pack.Nums(1, 0), "x", pack.Nums(2, 0)}, {"\x80\x00\x00"}} {
		refused(lay("", records...), 16, api.ErrForm)
	}
	refused(lay("base"), 16, api.ErrForm)
	refused(lay("base", pack.Nums(1, 0)), 16, api.ErrForm)
}

func TestClaim(t *testing.T) { // P20.2
	d := disk.New()
	w := open(t, d, 2, grant(0, 0))
	for _, bad := range [][2]int{{-1, 0}, {17, 0}, {1, 2}, {1, -1}, {math.MinInt, 0}, {0, 2}} {
		claim(t, w, bad[0], bad[1], grant(0, 0), api.ErrArg)
	}
	claim(t, w, 0, 1, grant(0, 0), api.OK)
	claim(t, w, 2, 1, grant(0, 0), api.OK)
	claim(t, w, 1, 1, grant(1, 1), api.OK)
	claim(t, w, 1, 0, grant(1, 1), api.OK)
	claim(t, w, 1, 1, grant(1, 1), api.OK)
	claim(t, w, 3, 0, grant(1, 1), api.OK)
	claim(t, w, 0, 0, grant(1, 1), api.OK)
	claim(t, w, 16, 0, grant(1, 1), api.OK)
	claim(t, w, 2, 0, grant(2, 0), api.OK)
	steps := d.Steps()
	claim(t, w, 3, 1, grant(0, 0), api.ErrSaturated)
	claim(t, w, 3, 2, grant(0, 0), api.ErrArg)
	claim(t, w, 2, 1, grant(2, 0), api.OK)
	claim(t, w, 4, 1, grant(2, 0), api.OK)
	if w.Grant() != grant(2, 0) || d.Steps() != steps {
		t.Fatal(w.Grant())
	}
	if _, base, records, e := wal.Open(d); e != api.OK || base != "" || !slices.Equal(records, []string{pack.Nums(1, 1), pack.Nums(2, 0)}) {
		t.Fatal(records)
	}
	d.Crash()
	w = open(t, d, 16, grant(2, 0))
	for n := 3; n <= 16; n++ {
		claim(t, w, n, n%2, grant(n, n%2), api.OK)
	}
	claim(t, w, 16, 1, grant(16, 0), api.OK)
	claim(t, w, 17, 1, grant(0, 0), api.ErrArg)
	d.Crash()
	w = open(t, d, 3, grant(16, 0))
	w = open(t, lay("", pack.Nums(1, 1)), 1, grant(1, 1))
	claim(t, w, 2, 1, grant(0, 0), api.ErrSaturated)
	for fuse := range 2 {
		d := disk.New()
		w := open(t, d, 9, grant(0, 0))
		d.Fuse(fuse)
		claim(t, w, 1, 1, grant(0, 0), api.ErrDown)
	}
}

func TestNil(t *testing.T) { // P20.3
	var w *witness.Witness
	claim(t, w, -1, 9, grant(0, 0), api.ErrNil)
	if w.Grant() != grant(0, 0) {
		t.Fatal("a nil one")
	}
}

func TestPowerGoes(t *testing.T) { // P20.4
	for seed := range 300 {
		rnd := rand.New(rand.NewSource(int64(seed)))
		d := disk.New()
		given := map[int]int{}
		for range 8 {
			w, e := witness.Open(d, 16)
			if e != api.OK {
				t.Fatal(e)
			}
			last := w.Grant()
			for epoch, site := range given {
				if epoch > last.Epoch || epoch == last.Epoch && site != last.Site {
					t.Fatal("an epoch that was granted is granted no more")
				}
			}
			d.Fuse(rnd.Intn(9))
			for e == api.OK {
				epoch, site := w.Grant().Epoch+rnd.Intn(3), rnd.Intn(2)
				var g api.Grant
				g, e = w.Claim(min(epoch, 16), site)
				if e != api.OK {
					break
				}
				if g.Epoch < last.Epoch || g.Epoch > last.Epoch+1 {
					t.Fatal("one by one")
				}
				if was, ok := given[g.Epoch]; ok && was != g.Site {
					t.Fatal("to one site")
				}
				given[g.Epoch] = g.Site
				last = g
				if rnd.Intn(9) == 0 {
					d.Fuse(0)
				}
				if g.Epoch == 16 {
					break
				}
			}
			d.Crash(rnd.Intn(20)-3, rnd.Intn(20))
		}
	}
}
