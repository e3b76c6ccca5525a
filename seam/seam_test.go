package seam_test

import (
	"math"
	"math/rand"
	"slices"
	"testing"

	"redoubt/api"
	"redoubt/seam"
)

func TestCommon(t *testing.T) { // P17.1
	for i, c := range []struct {
		lists [][]int
		want  int
	}{
		{nil, 0}, {[][]int{{}}, 0}, {[][]int{{1, 1, 2}}, 3}, {[][]int{{1, 1, 2}, {1, 1, 1, 3}}, 2}, {[][]int{{1, 1, 2}, {}}, 0}, {[][]int{{1, 2}, {1, 2, 3}, {1, 2, 4, 4}}, 2},
		{[][]int{{1, 2}, {1, 2}, {1, 3}}, 1}, {[][]int{{2}, {1}}, 0}, {[][]int{{1, 1, 2}, {3, 3, 2, 9}}, 3}, {[][]int{{5, 5}, {5, 5}}, 2}, {[][]int{{1, 2}, {2, 2, 2}, {1, 2}}, 2},
	} {
		if got := seam.Common(c.lists...); got != c.want {
			t.Fatal(i, got)
		}
	}
}

func TestHintAndNext(t *testing.T) { // P17.2
	list := []int{1, 1, 3, 3, 5}
	for _, c := range []struct{ after, since, n int }{
		{0, 9, 0}, {1, 9, 0}, {2, 9, 1}, {2, 1, 1}, {2, 0, 0}, {5, 3, 4}, {5, 2, 2}, {6, 5, 5}, {6, 4, 4}, {99, 5, 5}, {99, 1, 2}, {3, 3, 2}, {-5, 5, 0}, {math.MinInt, math.MaxInt, 0}, {math.MaxInt, math.MaxInt, 5}, {math.MaxInt, math.MinInt, 0},
	} {
		want := api.Spot{}
		if c.n > 0 {
			want = api.Spot{N: c.n, Epoch: list[c.n-1]}
		}
		if got := seam.Hint(list, c.after, c.since); got != want {
			t.Fatal(c, got)
		}
		if c.after > math.MinInt && c.after < math.MaxInt {
			if got := seam.Next(list, api.Spot{N: c.after - 1, Epoch: c.since}); got != c.n {
				t.Fatal(c, got)
			}
		}
	}
	if seam.Hint([]int{1, 1, 1, 3}, 3, 2) != (api.Spot{N: 2, Epoch: 1}) || seam.Next([]int{1, 1, 2}, api.Spot{N: 2, Epoch: 1}) != 2 || seam.Hint(nil, 9, 9) != (api.Spot{}) || seam.Next(nil, api.Spot{N: 9, Epoch: 9}) != 0 {
		t.Fatal("the examples")
	}
	for _, hint := range []api.Spot{{N: math.MinInt, Epoch: 9}, {N: -1, Epoch: 9}, {}} {
		if seam.Next(list, hint) != 0 {
			t.Fatal(hint)
		}
	}
	if seam.Next(list, api.Spot{N: math.MaxInt, Epoch: math.MaxInt}) != 5 || seam.Next(list, api.Spot{N: 4, Epoch: 4}) != 4 || seam.Next(list, api.Spot{N: 5, Epoch: 4}) != 4 || seam.Next(list, api.Spot{N: 4, Epoch: 2}) != 2 {
		t.Fatal("Next")
	}
}

// histories are two lists of one history: where they part, they never have one epoch again.
func histories(rnd *rand.Rand) (a, b []int) {
	epoch := 1
	for range rnd.Intn(8) {
		epoch += rnd.Intn(2) * (1 + rnd.Intn(3))
		a = append(a, epoch)
	}
	b = slices.Clone(a)
	low := epoch
	used := [2]map[int]int{{}, {}}
	for side, list := range []*[]int{&a, &b} {
		e := low
		for range rnd.Intn(9) {
			if rnd.Intn(3) > 0 || len(used[side]) == 0 {
				e += 1 + rnd.Intn(4)
				for used[1-side][e] > 0 {
					e++
				}
			}
			used[side][e]++
			*list = append(*list, e)
		}
	}
	return a, b
}

func TestLookingEnds(t *testing.T) { // P17.3
	rnd := rand.New(rand.NewSource(7))
	for range 20000 {
		sender, taker := histories(rnd)
		n := len(sender)
		questions := 0
		for n > 0 && !(n <= len(taker) && taker[n-1] == sender[n-1]) {
			n = seam.Next(sender, seam.Hint(taker, n, sender[n-1]))
			questions++
		}
		epochs := len(slices.Compact(slices.Clone(sender)))
		if n != seam.Common(sender, taker) || questions > epochs+1 {
			t.Fatal(sender, taker, n, questions)
		}
	}
}
