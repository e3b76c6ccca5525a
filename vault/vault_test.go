package vault_test

import (
	"math"
	"math/rand"
	"slices"
	"strings"
	"testing"

	"redoubt/api"
	"redoubt/disk"
	"redoubt/sha"
	"redoubt/vault"
)

func nameOf(chunk string) string { return "b." + sha.Name(sha.Sum(chunk)) }

func open(t *testing.T, d *disk.Disk, quota int) *vault.Vault {
	t.Helper()
	v, e := vault.Open(d, quota)
	if e != api.OK || v == nil {
		t.Fatal(e)
	}
	return v
}

func put(t *testing.T, v *vault.Vault, chunk string, want api.Errno) string {
	t.Helper()
	h, e := v.Put(chunk)
	if e != want || e == api.OK && h != sha.Sum(chunk) || e != api.OK && h != "" {
		t.Fatalf("put of %.10q answered %d", chunk, e)
	}
	return h
}

func get(t *testing.T, v *vault.Vault, chunk string, want api.Errno) {
	t.Helper()
	got, e := v.Get(sha.Sum(chunk))
	if e != want || e == api.OK && got != chunk || e != api.OK && got != "" {
		t.Fatalf("get of %.10q answered %d", chunk, e)
	}
}

func hashes(chunks ...string) []string {
	var list []string
	for _, c := range chunks {
		list = append(list, sha.Sum(c))
	}
	return list
}

func sorted(list ...string) []string {
	slices.Sort(list)
	return list
}

func TestOpen(t *testing.T) { // P10.1
	if v, e := vault.Open(nil, -1); v != nil || e != api.ErrNil {
		t.Fatal(e)
	}
	d := disk.New()
	for _, q := range []int{-1, 1<<20 + 1, math.MinInt, math.MaxInt} {
		if v, e := vault.Open(d, q); v != nil || e != api.ErrArg {
			t.Fatal(q, e)
		}
	}
	d.Fuse(0)
	d.Append("x", "")
	if v, e := vault.Open(d, 1<<20); v != nil || e != api.ErrDown {
		t.Fatal(e)
	}
	if v, e := vault.Open(d, -1); v != nil || e != api.ErrArg {
		t.Fatal(e)
	}
	long := strings.Repeat("l", 65)
	lay := func() *disk.Disk {
		d := disk.New()
		for _, f := range [][2]string{{nameOf("good"), "good"}, {nameOf(long[:64]), long[:64]}, {nameOf("bad"), "BAD"}, {nameOf(long), long}, {nameOf(""), ""}, {"b.", "x"}, {"b.zz", "x"}, {nameOf("good") + "0", "good"}, {"log.1", "stays"}, {"b", "stays"}} {
			d.Append(f[0], f[1])
			d.Sync(f[0])
		}
		return d
	}
	d = lay()
	v := open(t, d, 0)
	if got := d.Names(""); !slices.Equal(got, sorted("b", "log.1", nameOf("good"), nameOf(long[:64]))) {
		t.Fatal(got)
	}
	if !slices.Equal(v.List(), sorted(hashes("good", long[:64])...)) || v.Bytes() != 68 || v.Held(sha.Sum("good")) != 0 {
		t.Fatal(v.Bytes())
	}
	d = lay()
	names := d.Names("b.")
	d.Fuse(1)
	if v, e := vault.Open(d, 0); v != nil || e != api.ErrDown {
		t.Fatal(e)
	}
	d.Crash()
	var bad []string
	for _, n := range names {
		if n != nameOf("good") && n != nameOf(long[:64]) {
			bad = append(bad, n)
		}
	}
	for i, n := range bad {
		if _, ok := d.Read(n); ok != (i > 0) {
			t.Fatal("by rising name", i, n)
		}
	}
}

func TestPut(t *testing.T) { // P10.2
	d := disk.New()
	v := open(t, d, 70)
	put(t, v, "", api.ErrArg)
	put(t, v, strings.Repeat("x", 65), api.ErrArg)
	put(t, v, "abc", api.OK)
	if len(nameOf("abc")) != 66 || !slices.Equal(d.Names(""), []string{nameOf("abc")}) || d.Steps() != 2 {
		t.Fatal(d.Names(""), d.Steps())
	}
	if s, _ := d.Read(nameOf("abc")); s != "abc" {
		t.Fatal(s)
	}
	put(t, v, "abc", api.OK)
	if d.Steps() != 2 {
		t.Fatal("put again: nothing is written")
	}
	put(t, v, strings.Repeat("x", 64), api.OK)
	put(t, v, "four", api.ErrQuota)
	put(t, v, "for", api.OK)
	put(t, v, "x", api.ErrQuota)
	put(t, v, "abc", api.OK)
	if v.Bytes() != 70 || len(v.List()) != 3 {
		t.Fatal(v.Bytes())
	}
	put(t, open(t, disk.New(), 0), "x", api.ErrQuota)
	d.Crash()
	get(t, v, "for", api.OK)
	d.Flip(nameOf("for"), 3)
	steps := d.Steps()
	put(t, v, "for", api.OK)
	if d.Steps() != steps+3 {
		t.Fatal("removed, put, synced", d.Steps()-steps)
	}
	get(t, v, "for", api.OK)
	d.Flip(nameOf("for"), 3)
	d.Fuse(0)
	put(t, v, "for", api.ErrDown)
	put(t, v, "", api.ErrArg)
	put(t, v, "abc", api.ErrDown)
	d.Crash()
	for fuse := range 3 {
		d := disk.New()
		v := open(t, d, 100)
		put(t, v, "one", api.OK)
		d.Flip(nameOf("one"), 0)
		d.Fuse(fuse)
		put(t, v, "one", api.ErrDown)
		d.Crash()
		v = open(t, d, 100)
		put(t, v, "one", api.OK)
		get(t, v, "one", api.OK)
	}
}

func TestPutAnewOverQuota(t *testing.T) { // P10.2
	d := disk.New()
	v := open(t, d, 20)
	put(t, v, "0123456789", api.OK)
	d.Flip(nameOf("0123456789"), 0)
	put(t, v, "abcdefghij", api.OK)
	put(t, v, "0123456789", api.OK) // its own bad file counts no more
	v = open(t, d, 15)
	d.Flip(nameOf("0123456789"), 0)
	put(t, v, "0123456789", api.ErrQuota)
	if v.Has(sha.Sum("0123456789")) {
		t.Fatal("it isn't there any more")
	}
	if _, ok := d.Read(nameOf("0123456789")); ok || v.Bytes() != 10 {
		t.Fatal("its file is removed all the same")
	}
}

func TestGetHasMissing(t *testing.T) { // P10.3
	d := disk.New()
	v := open(t, d, 1000)
	get(t, v, "abc", api.ErrMissing)
	put(t, v, "abc", api.OK)
	put(t, v, "de", api.OK)
	get(t, v, "abc", api.OK)
	if !v.Has(sha.Sum("abc")) || v.Has(sha.Sum("x")) || v.Has("") || v.Has("abc") {
		t.Fatal("Has")
	}
	list := hashes("x", "abc", "y", "x", "de", "y", "z")
	before := slices.Clone(list)
	if got := v.Missing(list...); !slices.Equal(got, hashes("x", "y", "z")) || !slices.Equal(list, before) {
		t.Fatal(got)
	}
	if len(v.Missing()) != 0 || len(v.Missing(sha.Sum("abc"))) != 0 {
		t.Fatal("none")
	}
	d.Flip(nameOf("abc"), 7)
	if v.Has(sha.Sum("abc")) || !slices.Equal(v.Missing(hashes("abc", "de")...), hashes("abc")) {
		t.Fatal("a bit has turned")
	}
	if len(v.List()) != 2 || v.Bytes() != 5 {
		t.Fatal("it is kept still")
	}
	get(t, v, "abc", api.ErrCorrupt)
	get(t, v, "abc", api.ErrMissing)
	if _, ok := d.Read(nameOf("abc")); ok || len(v.List()) != 1 {
		t.Fatal("its file is removed")
	}
	d.Flip(nameOf("de"), 0)
	d.Fuse(0)
	get(t, v, "x", api.ErrMissing)
	get(t, v, "de", api.ErrDown)
	get(t, v, "x", api.ErrDown)
	if v.Has(sha.Sum("de")) || len(v.Missing(hashes("de")...)) != 1 {
		t.Fatal("with the power off")
	}
	d.Crash()
	get(t, v, "de", api.ErrCorrupt)
}

func TestHoldAndSweep(t *testing.T) { // P10.4
	d := disk.New()
	v := open(t, d, 1000)
	for _, c := range []string{"a", "b", "c", "d"} {
		put(t, v, c, api.OK)
	}
	h := hashes("a", "b", "c", "d")
	v.Hold(h[0], h[1], h[0], "any bytes")
	v.Free(h[2], h[3], h[3])
	v.Hold(h[3])
	if v.Held(h[0]) != 2 || v.Held(h[1]) != 1 || v.Held(h[2]) != 0 || v.Held(h[3]) != 1 || v.Held("any bytes") != 1 || v.Held("") != 0 {
		t.Fatal("held")
	}
	if n, e := v.Sweep(); n != 1 || e != api.OK || !slices.Equal(v.List(), sorted(h[0], h[1], h[3])) {
		t.Fatal(n, e)
	}
	get(t, v, "c", api.ErrMissing)
	v.Free(h...)
	if v.Held(h[0]) != 1 || v.Held(h[1]) != 0 {
		t.Fatal("freed")
	}
	if n, e := v.Sweep(); n != 2 || e != api.OK || !slices.Equal(v.List(), h[:1]) || !slices.Equal(d.Names(""), []string{nameOf("a")}) {
		t.Fatal(n, e)
	}
	v.Free(h[0], h[0], h[0])
	v.Hold(h[0])
	if n, e := v.Sweep(); n != 0 || e != api.OK {
		t.Fatal("never below 0")
	}
	v = open(t, d, 1000)
	if v.Held(h[0]) != 0 {
		t.Fatal("of all hashes 0 when it is opened")
	}
	if v.Bytes() != 1 {
		t.Fatal(v.Bytes())
	}
}

func TestSweepDown(t *testing.T) { // P10.4
	d := disk.New()
	v := open(t, d, 1000)
	list := []string{"a", "b", "c", "d"}
	for _, c := range list {
		put(t, v, c, api.OK)
	}
	h := sorted(hashes(list...)...)
	d.Fuse(2)
	if n, e := v.Sweep(); n != 0 || e != api.ErrDown {
		t.Fatal(n, e)
	}
	if v.Bytes() != 0 || len(v.List()) != 0 {
		t.Fatal("with the power off")
	}
	d.Crash()
	if !slices.Equal(v.List(), h[2:]) || len(d.Names("")) != 2 || v.Bytes() != 2 {
		t.Fatal("by rising hash")
	}
	v.Hold(h...)
	d.Fuse(0)
	d.Append("x", "")
	if n, e := v.Sweep(); n != 0 || e != api.ErrDown {
		t.Fatal("though nothing is to be removed")
	}
}

func TestNil(t *testing.T) { // P10.5
	var v *vault.Vault
	put(t, v, "", api.ErrNil)
	get(t, v, "x", api.ErrNil)
	v.Hold("x")
	v.Free("x")
	if n, e := v.Sweep(); n != 0 || e != api.ErrNil {
		t.Fatal(e)
	}
	if v.Has("") || v.Missing("x") != nil || v.Held("x") != 0 || v.Bytes() != 0 || v.List() != nil {
		t.Fatal("a nil vault")
	}
}

func TestPowerGoes(t *testing.T) { // P10.6
	for seed := range 300 {
		rnd := rand.New(rand.NewSource(int64(seed)))
		d := disk.New()
		sure := map[string]int{}
		for range 10 {
			v, e := vault.Open(d, 500)
			if e != api.OK {
				t.Fatal(e)
			}
			for c := range sure {
				get(t, v, c, api.OK)
			}
			for _, n := range d.Names("b.") {
				if s, _ := d.Read(n); nameOf(s) != n {
					t.Fatal("a file that isn't whole")
				}
			}
			d.Fuse(rnd.Intn(8))
			for {
				c := strings.Repeat(string([]byte{byte('a' + rnd.Intn(20))}), 1+rnd.Intn(20))
				if _, e := v.Put(c); e == api.OK {
					sure[c] = 1
				} else if e == api.ErrDown {
					break
				}
				if rnd.Intn(30) == 0 {
					d.Fuse(0)
					d.Append("x", "")
					break
				}
			}
			d.Crash(rnd.Intn(30)-5, rnd.Intn(9))
		}
		v := open(t, d, 500)
		names := d.Names("b.")
		if len(names) > 0 {
			n := names[rnd.Intn(len(names))]
			s, _ := d.Read(n)
			d.Flip(n, rnd.Intn(8*len(s)))
			h, _ := sha.Hash(n[2:])
			if got, e := v.Get(h); e != api.ErrCorrupt || got != "" {
				t.Fatal(e)
			}
		}
	}
}
