package disk_test

import (
	"math"
	"slices"
	"strings"
	"testing"

	"redoubt/api"
	"redoubt/disk"
)

func want(t *testing.T, got, e api.Errno) {
	t.Helper()
	if got != e {
		t.Fatalf("answered %d, not %d", got, e)
	}
}

func reads(t *testing.T, d *disk.Disk, name, s string, there bool) {
	t.Helper()
	if got, ok := d.Read(name); got != s || ok != there {
		t.Fatalf("%s has %q, %v", name, got, ok)
	}
}

func TestSteps(t *testing.T) { // P5.1, P5.2
	d := disk.New()
	if d.Down() || d.Steps() != 0 || len(d.Names("")) != 0 {
		t.Fatal("a new drive")
	}
	want(t, d.Append("a", "xy"), api.OK)
	want(t, d.Append("a", "z"), api.OK)
	reads(t, d, "a", "xyz", true)
	want(t, d.Sync("a"), api.OK)
	want(t, d.Append("a", "!"), api.OK)
	reads(t, d, "a", "xyz!", true)
	want(t, d.Append("b", ""), api.OK)
	reads(t, d, "b", "", true)
	reads(t, d, "c", "", false)
	want(t, d.Sync("c"), api.ErrNone)
	want(t, d.Remove("c"), api.ErrNone)
	if d.Steps() != 5 {
		t.Fatal(d.Steps())
	}
	want(t, d.Remove("a"), api.OK)
	reads(t, d, "a", "", false)
	want(t, d.Append("a", "new"), api.OK)
	reads(t, d, "a", "new", true)
	if d.Steps() != 7 {
		t.Fatal(d.Steps())
	}
}

func TestNamesThatMayBe(t *testing.T) { // P5.1
	d := disk.New()
	for _, bad := range []string{"", "A", "a/b", "a_b", " ", "-", "`", "{", "/", ":", "é", "\x00", strings.Repeat("a", 81)} {
		want(t, d.Append(bad, "x"), api.ErrArg)
		want(t, d.Sync(bad), api.ErrArg)
		want(t, d.Remove(bad), api.ErrArg)
		want(t, d.Flip(bad, 0), api.ErrNone)
	}
	if d.Steps() != 0 || len(d.Names("")) != 0 {
		t.Fatal("what is refused is no step")
	}
	for _, good := range []string{"a", "z", "0", "9", ".", "..", strings.Repeat("a", 80), "b.09az"} {
		want(t, d.Append(good, ""), api.OK)
	}
	d.Fuse(0)
	want(t, d.Append("a", ""), api.ErrDown)
	want(t, d.Append("A", ""), api.ErrArg)
	want(t, d.Sync("A"), api.ErrArg)
	want(t, d.Remove(""), api.ErrArg)
}

func TestFull(t *testing.T) { // P5.1
	d := disk.New()
	big := strings.Repeat("x", 1<<20)
	want(t, d.Append("a", big+"y"), api.ErrFull)
	reads(t, d, "a", "", false)
	want(t, d.Append("a", big), api.OK)
	want(t, d.Append("a", "y"), api.ErrFull)
	want(t, d.Append("a", ""), api.OK)
	want(t, d.Sync("a"), api.OK)
	want(t, d.Append("a", "y"), api.ErrFull)
	want(t, d.Append("b", "y"), api.OK)
	d.Fuse(0)
	want(t, d.Append("a", "y"), api.ErrFull)
	if d.Down() {
		t.Fatal("what is refused is no step")
	}
	want(t, d.Sync("none"), api.ErrNone)
	want(t, d.Append("b", "y"), api.ErrDown)
	want(t, d.Append("a", "y"), api.ErrDown)
	want(t, d.Sync("none"), api.ErrDown)
	want(t, d.Remove("none"), api.ErrDown)
}

func TestNames(t *testing.T) { // P5.2
	d := disk.New()
	for _, n := range []string{"b.2", "a", "b.10", "b", "c", "b.", "b0"} {
		want(t, d.Append(n, n), api.OK)
	}
	if got := d.Names("b."); !slices.Equal(got, []string{"b.", "b.10", "b.2"}) {
		t.Fatal(got)
	}
	if got := d.Names(""); !slices.Equal(got, []string{"a", "b", "b.", "b.10", "b.2", "b0", "c"}) {
		t.Fatal(got)
	}
	if len(d.Names("x")) != 0 || len(d.Names("A")) != 0 {
		t.Fatal("none")
	}
	d.Fuse(0)
	want(t, d.Remove("a"), api.ErrDown)
	if !d.Down() || len(d.Names("")) != 0 {
		t.Fatal("with the power off no names are told")
	}
	reads(t, d, "a", "", false)
}

func TestFuse(t *testing.T) { // P5.3
	for n := range 5 {
		d := disk.New()
		d.Fuse(n)
		steps := []func() api.Errno{
			func() api.Errno { return d.Append("a", "1") },
			func() api.Errno { return d.Sync("a") },
			func() api.Errno { return d.Append("b", "2") },
			func() api.Errno { return d.Remove("a") },
		}
		for i, step := range steps {
			e := api.OK
			if i >= n {
				e = api.ErrDown
			}
			want(t, step(), e)
		}
		if d.Down() != (n < 4) || d.Steps() != n {
			t.Fatal(n, d.Down(), d.Steps())
		}
		d.Crash(1, 1)
		if d.Down() {
			t.Fatal("Crash brings the power")
		}
		for range 10 {
			want(t, d.Append("c", "x"), api.OK)
		}
	}
	d := disk.New()
	d.Fuse(1)
	d.Fuse(-1)
	for range 5 {
		want(t, d.Append("a", "x"), api.OK)
	}
	d.Fuse(2)
	d.Fuse(0)
	want(t, d.Append("a", "x"), api.ErrDown)
	d.Fuse(-1)
	want(t, d.Append("a", "x"), api.ErrDown)
	d.Fuse(7)
	d.Crash()
	d.Fuse(math.MinInt)
	for range 20 {
		want(t, d.Append("a", ""), api.OK)
	}
}

func TestCrash(t *testing.T) { // P5.3
	lay := func() *disk.Disk {
		d := disk.New()
		d.Append("a", "xy")
		d.Sync("a")
		d.Append("a", "z!")
		d.Append("b", "firm")
		d.Sync("b")
		d.Append("c", "loose")
		d.Append("d", "")
		d.Append("e", "")
		d.Sync("e")
		d.Append("f", "more")
		return d
	}
	for _, c := range []struct {
		keeps   []int
		a, c, f string
	}{
		{nil, "xy", "", ""},
		{[]int{1}, "xyz", "", ""},
		{[]int{2, 3, 4}, "xyz!", "loo", "more"},
		{[]int{-1, 0, 1}, "xy", "", "m"},
		{[]int{math.MaxInt, math.MaxInt, math.MinInt}, "xyz!", "loose", ""},
		{[]int{0, 1, 9, 9, 9}, "xy", "l", "more"},
	} {
		d := lay()
		steps := d.Steps()
		keeps := slices.Clone(c.keeps)
		d.Crash(keeps...)
		if !slices.Equal(keeps, c.keeps) || d.Steps() != steps {
			t.Fatal("what was handed in stays, and a crash is no step")
		}
		for range 3 {
			reads(t, d, "a", c.a, true)
			reads(t, d, "b", "firm", true)
			reads(t, d, "c", c.c, c.c != "")
			reads(t, d, "d", "", false)
			reads(t, d, "e", "", true)
			reads(t, d, "f", c.f, c.f != "")
			d.Crash() // what is left is left by the next one, too
		}
	}
	d := disk.New()
	d.Append("a", "keep")
	d.Crash(4)
	d.Append("a", "go")
	d.Crash()
	reads(t, d, "a", "keep", true)
	d.Remove("a")
	d.Crash(9)
	reads(t, d, "a", "", false)
	d.Append("a", "")
	d.Crash(9)
	reads(t, d, "a", "", false)
}

func TestCrashWithPowerOff(t *testing.T) { // P5.3, P5.6
	d := disk.New()
	d.Append("a", "sure")
	d.Sync("a")
	d.Fuse(1)
	want(t, d.Append("a", "more"), api.OK)
	want(t, d.Sync("a"), api.ErrDown)
	want(t, d.Sync("a"), api.ErrDown)
	d.Crash(2)
	reads(t, d, "a", "suremo", true)
	d.Fuse(0)
	want(t, d.Remove("a"), api.ErrDown)
	d.Crash()
	reads(t, d, "a", "suremo", true)
}

func TestFlip(t *testing.T) { // P5.4
	d := disk.New()
	d.Append("a", "AB")
	d.Sync("a")
	d.Append("a", "C")
	steps := d.Steps()
	want(t, d.Flip("b", 0), api.ErrNone)
	want(t, d.Flip("a", -1), api.ErrArg)
	want(t, d.Flip("a", 24), api.ErrArg)
	want(t, d.Flip("a", math.MaxInt), api.ErrArg)
	want(t, d.Flip("a", math.MinInt), api.ErrArg)
	reads(t, d, "a", "ABC", true)
	want(t, d.Flip("a", 0), api.OK)
	reads(t, d, "a", "@BC", true)
	want(t, d.Flip("a", 15), api.OK)
	reads(t, d, "a", "@\xc2C", true)
	want(t, d.Flip("a", 17), api.OK)
	reads(t, d, "a", "@\xc2A", true)
	if d.Steps() != steps {
		t.Fatal("a flip is no step")
	}
	d.Fuse(0)
	want(t, d.Flip("a", 23), api.OK)
	want(t, d.Sync("a"), api.ErrDown)
	want(t, d.Flip("a", 0), api.OK)
	d.Crash()
	reads(t, d, "a", "A\xc2", true)
	d.Append("e", "")
	want(t, d.Flip("e", 0), api.ErrArg)
}

func TestCopy(t *testing.T) { // P5.4
	d := disk.New()
	d.Append("a", "xy")
	d.Sync("a")
	d.Append("a", "z")
	d.Append("b", "q")
	d.Fuse(3)
	c := d.Copy()
	if c.Steps() != d.Steps() || !slices.Equal(c.Names(""), d.Names("")) {
		t.Fatal("the same files and steps")
	}
	for range 3 {
		want(t, c.Append("a", "!"), api.OK)
	}
	want(t, c.Append("a", "!"), api.ErrDown)
	reads(t, d, "a", "xyz", true)
	if d.Down() || !c.Down() || !c.Copy().Down() {
		t.Fatal("they know nothing of each other")
	}
	want(t, d.Flip("b", 0), api.OK)
	want(t, d.Remove("a"), api.OK)
	c.Crash(1)
	reads(t, c, "a", "xyz", true)
	reads(t, c, "b", "", false)
	reads(t, d, "b", "p", true)
	n := disk.New()
	m := n.Copy()
	m.Append("x", "")
	if len(n.Names("")) != 0 {
		t.Fatal("they know nothing of each other")
	}
}

func TestNil(t *testing.T) { // P5.5
	var d *disk.Disk
	want(t, d.Append("A", ""), api.ErrNil)
	want(t, d.Sync(""), api.ErrNil)
	want(t, d.Remove("a"), api.ErrNil)
	want(t, d.Flip("a", 0), api.ErrNil)
	d.Fuse(3)
	d.Crash(1)
	reads(t, d, "a", "", false)
	if d.Names("") != nil || d.Down() || d.Steps() != 0 || d.Copy() != nil {
		t.Fatal("a nil drive")
	}
}

func TestSyncLasts(t *testing.T) { // P5.6
	for keep := range 8 {
		for fuse := range 12 {
			d := disk.New()
			d.Fuse(fuse)
			sure := ""
			put := ""
			for i := range 5 {
				s := strings.Repeat(string(rune('a'+i)), 3)
				if d.Append("f", s) == api.OK {
					put += s
				}
				if d.Sync("f") == api.OK {
					sure = put
				}
			}
			d.Crash(keep)
			got, _ := d.Read("f")
			if !strings.HasPrefix(got, sure) || !strings.HasPrefix(put, got) || len(got)-len(sure) > keep {
				t.Fatal(keep, fuse, got, sure)
			}
			d.Crash(keep)
			if again, _ := d.Read("f"); again != got {
				t.Fatal(again, got)
			}
		}
	}
}
