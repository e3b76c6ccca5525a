package bucket_test

import (
	"math"
	"math/rand"
	"slices"
	"testing"

	"redoubt/api"
	"redoubt/bucket"
)

func fill(t *testing.T, rate, burst int) *bucket.Bucket {
	t.Helper()
	b, e := bucket.New(rate, burst)
	if e != api.OK {
		t.Fatal(e)
	}
	return b
}

func TestNewAndTick(t *testing.T) { // P16.1
	for _, c := range [][2]int{{0, 64}, {4097, 64}, {-1, 64}, {1, 63}, {1, 16385}, {1, -1}, {math.MaxInt, math.MaxInt}} {
		if b, e := bucket.New(c[0], c[1]); b != nil || e != api.ErrArg {
			t.Fatal(c, e)
		}
	}
	for _, c := range [][2]int{{1, 64}, {4096, 16384}, {4096, 64}} {
		b := fill(t, c[0], c[1])
		if b.Left() != c[1] {
			t.Fatal(b.Left())
		}
		b.Tick()
		if b.Left() != c[1] {
			t.Fatal("not more than burst")
		}
		b.Take(c[1])
		if b.Left() != 0 {
			t.Fatal(b.Left())
		}
		for i := 1; i < 70; i++ {
			b.Tick()
			if b.Left() != min(i*c[0], c[1]) {
				t.Fatal(i, b.Left())
			}
		}
	}
}

func TestTake(t *testing.T) { // P16.2
	b := fill(t, 10, 100)
	if b.Take(60, 50, 1) != 1 || b.Left() != 40 {
		t.Fatal(b.Left())
	}
	b.Tick()
	if b.Left() != 50 || b.Take(-1) != 0 || b.Take(51) != 0 || b.Take() != 0 || b.Left() != 50 {
		t.Fatal(b.Left())
	}
	if b.Take(0, 20, 0, -5, 1) != 3 || b.Left() != 30 {
		t.Fatal(b.Left())
	}
	sizes := []int{10, 20, 0, 1}
	if b.Take(sizes...) != 3 || b.Left() != 0 || !slices.Equal(sizes, []int{10, 20, 0, 1}) {
		t.Fatal(b.Left())
	}
	if b.Take(math.MaxInt) != 0 || b.Take(math.MinInt) != 0 || b.Take(0) != 1 {
		t.Fatal("of an empty one")
	}
}

func TestCopyAndNil(t *testing.T) { // P16.3
	b := fill(t, 7, 70)
	b.Take(50)
	c := b.Copy()
	b.Take(20)
	if c.Left() != 20 || b.Left() != 0 {
		t.Fatal("they know nothing of each other")
	}
	for range 20 {
		c.Tick()
	}
	if c.Left() != 70 || b.Left() != 0 {
		t.Fatal(c.Left())
	}
	var n *bucket.Bucket
	n.Tick()
	if n.Take(0) != 0 || n.Left() != 0 || n.Copy() != nil {
		t.Fatal("a nil bucket")
	}
}

func TestNoMoreGoes(t *testing.T) { // P16.4
	rnd := rand.New(rand.NewSource(1))
	for range 200 {
		rate, burst := 1+rnd.Intn(200), 64+rnd.Intn(500)
		b := fill(t, rate, burst)
		gone, ticks := 0, 0
		for range 300 {
			if rnd.Intn(3) == 0 {
				b.Tick()
				ticks++
			}
			n := rnd.Intn(100)
			gone += n * b.Take(n)
			if gone > burst+rate*ticks {
				t.Fatal("more went")
			}
		}
		for range burst/rate + 1 {
			b.Tick()
		}
		if b.Take(burst) != 1 {
			t.Fatal("what is at most burst goes")
		}
	}
}
