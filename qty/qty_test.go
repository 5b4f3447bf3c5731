package qty_test

import (
	"math"
	"testing"

	"interrex/api"
	"interrex/qty"
)

// The greatest amount of one resource, and the greatest that is reckoned with.
const (
	most = 1000000000
	far  = 1 << 62
)

// at is a Res that is x at place k, and rest elsewhere.
func at(k int, x, rest int64) api.Res {
	r := api.Res{rest, rest, rest}
	r[k] = x
	return r
}

func TestMay(t *testing.T) {
	if !qty.May(api.Res{}) || !qty.May(api.Res{1, 2, 3}) || !qty.May(api.Res{most, most, most}) {
		t.Error("P1.1: May tells false of what may be")
	}
	for k := range 3 {
		for _, x := range []struct {
			amount int64
			want   bool
		}{
			{0, true}, {1, true}, {most - 1, true}, {most, true},
			{most + 1, false}, {-1, false}, {1 << 62, false}, {math.MaxInt64, false}, {math.MinInt64, false},
		} {
			for _, rest := range []int64{0, 7, most} {
				if got := qty.May(at(k, x.amount, rest)); got != x.want {
					t.Errorf("P1.1: May(%v) = %v", at(k, x.amount, rest), got)
				}
			}
		}
	}
}

func TestAdd(t *testing.T) {
	if sum, ok := qty.Add(api.Res{1, 20, 300}, api.Res{4, 50, 600}); sum != (api.Res{5, 70, 900}) || !ok {
		t.Errorf("P1.1: Add = %v, %v", sum, ok)
	}
	for _, x := range []struct {
		a, b int64
		want int64
		ok   bool
	}{
		{0, 0, 0, true}, {1, 2, 3, true}, {most, most, 2 * most, true}, {most + 1, 1, most + 2, true},
		{far, 0, far, true}, {far - 1, 1, far, true}, {far / 2, far / 2, far, true}, {far - 5, 3, far - 2, true},
		{far, 1, 0, false}, {far/2 + 1, far / 2, 0, false}, {far, far, 0, false}, {far - 1, 2, 0, false},
		{far + 1, 0, 0, false}, {-1, 0, 0, false}, {-1, 1, 0, false}, {-1, 5, 0, false}, {far + 1, -1, 0, false}, {-3, far + 2, 0, false},
		{math.MaxInt64, 0, 0, false}, {math.MaxInt64, math.MaxInt64, 0, false}, {math.MaxInt64, -math.MaxInt64, 0, false},
		{math.MinInt64, 0, 0, false}, {math.MinInt64, math.MinInt64, 0, false}, {math.MinInt64, math.MaxInt64, 0, false},
	} {
		for k := range 3 {
			want := api.Res{}
			if x.ok {
				want = at(k, x.want, 15)
			}
			if sum, ok := qty.Add(at(k, x.a, 9), at(k, x.b, 6)); sum != want || ok != x.ok {
				t.Errorf("P1.1: Add of %d and %d at %d = %v, %v", x.a, x.b, k, sum, ok)
			}
			if sum, ok := qty.Add(at(k, x.b, 6), at(k, x.a, 9)); sum != want || ok != x.ok {
				t.Errorf("P1.1: Add of %d and %d at %d = %v, %v", x.b, x.a, k, sum, ok)
			}
		}
	}
}

func TestSub(t *testing.T) {
	if less, ok := qty.Sub(api.Res{5, 70, 900}, api.Res{4, 50, 600}); less != (api.Res{1, 20, 300}) || !ok {
		t.Errorf("P1.1: Sub = %v, %v", less, ok)
	}
	for _, x := range []struct {
		a, b int64
		want int64
		ok   bool
	}{
		{0, 0, 0, true}, {3, 2, 1, true}, {most, most, 0, true}, {most + 1, 1, most, true},
		{far, 0, far, true}, {far, 1, far - 1, true}, {far, far - 1, 1, true}, {far, far, 0, true},
		{0, 1, 0, false}, {2, 3, 0, false}, {far - 1, far, 0, false}, {0, far, 0, false},
		{far + 1, 0, 0, false}, {far + 1, 1, 0, false}, {far + 1, far, 0, false}, {far + 1, far + 1, 0, false}, {far, far + 1, 0, false},
		{-1, 0, 0, false}, {0, -1, 0, false}, {5, -1, 0, false}, {-1, -1, 0, false}, {-1, -2, 0, false}, {far, -1, 0, false},
		{math.MaxInt64, 0, 0, false}, {math.MaxInt64, math.MaxInt64, 0, false}, {math.MaxInt64, far, 0, false},
		{math.MinInt64, 0, 0, false}, {math.MinInt64, 1, 0, false}, {0, math.MinInt64, 0, false}, {math.MinInt64, math.MinInt64, 0, false},
	} {
		for k := range 3 {
			want := api.Res{}
			if x.ok {
				want = at(k, x.want, 3)
			}
			if less, ok := qty.Sub(at(k, x.a, 9), at(k, x.b, 6)); less != want || ok != x.ok {
				t.Errorf("P1.1: Sub of %d and %d at %d = %v, %v", x.a, x.b, k, less, ok)
			}
		}
	}
}

func TestFits(t *testing.T) {
	for _, x := range []struct {
		need, room int64
		want       bool
	}{
		{0, 0, true}, {1, 2, true}, {2, 2, true}, {3, 2, false}, {1, 0, false},
		{most, most, true}, {most + 1, most, false}, {far, far, true}, {far + 1, far, false}, {far + 1, far + 1, true},
		{-1, 0, true}, {0, -1, false}, {-5, -4, true}, {-4, -5, false}, {-4, -4, true},
		{math.MinInt64, math.MaxInt64, true}, {math.MaxInt64, math.MinInt64, false}, {math.MinInt64, 0, true}, {math.MaxInt64, math.MaxInt64, true},
	} {
		for k := range 3 {
			if got := qty.Fits(at(k, x.need, 6), at(k, x.room, 9)); got != x.want {
				t.Errorf("P1.1: Fits of %d and %d at %d = %v", x.need, x.room, k, got)
			}
			if qty.Fits(at(k, x.need, 9), at(k, x.room, 6)) {
				t.Errorf("P1.1: Fits of %d and %d at %d, though the others do not", x.need, x.room, k)
			}
		}
	}
}

func TestSum(t *testing.T) {
	for k, x := range []struct {
		rs   []api.Res
		want api.Res
		ok   bool
	}{
		{nil, api.Res{}, true},
		{[]api.Res{}, api.Res{}, true},
		{[]api.Res{{}}, api.Res{}, true},
		{[]api.Res{{1, 2, 3}}, api.Res{1, 2, 3}, true},
		{[]api.Res{{1, 2, 3}, {10, 20, 30}, {100, 200, 300}}, api.Res{111, 222, 333}, true},
		{[]api.Res{{most, most, most}, {most, most, most}}, api.Res{2 * most, 2 * most, 2 * most}, true},
		{[]api.Res{{far, far, far}}, api.Res{far, far, far}, true},
		{[]api.Res{{far, 0, 0}, {0, far, 0}, {0, 0, far}}, api.Res{far, far, far}, true},
		{[]api.Res{{far / 2, 0, 0}, {far/2 - 1, 0, 0}, {1, 0, 0}}, api.Res{far, 0, 0}, true},
		{[]api.Res{{far, 1, 1}, {1, 1, 1}}, api.Res{}, false},
		{[]api.Res{{1, 1, 1}, {1, far, 1}}, api.Res{}, false},
		{[]api.Res{{1, 2, far}, {0, 0, 0}, {1, 2, 1}, {1, 2, 0}}, api.Res{}, false},
		{[]api.Res{{far, far, far}, {far, far, far}, {far, far, far}, {far, far, far}, {1, 1, 1}}, api.Res{}, false},
		{[]api.Res{{0, 0, far + 1}}, api.Res{}, false},
		{[]api.Res{{-1, 0, 0}}, api.Res{}, false},
		{[]api.Res{{0, -1, 0}, {1, 1, 1}}, api.Res{}, false},
		{[]api.Res{{1, 1, 1}, {0, 0, -1}}, api.Res{}, false},
		{[]api.Res{{1, 1, 1}, {-1, 0, 0}, {1, 1, 1}}, api.Res{}, false},
		{[]api.Res{{math.MinInt64, 0, 0}, {math.MaxInt64, 0, 0}, {1, 0, 0}}, api.Res{}, false},
	} {
		if sum, ok := qty.Sum(x.rs...); sum != x.want || ok != x.ok {
			t.Errorf("P1.1, %d: Sum = %v, %v", k, sum, ok)
		}
	}
	if sum, ok := qty.Sum(); sum != (api.Res{}) || !ok {
		t.Errorf("P1.1: Sum of none = %v, %v", sum, ok)
	}
}

func TestSumOfMany(t *testing.T) {
	rs := make([]api.Res, 10000)
	for k := range rs {
		rs[k] = api.Res{1, int64(k), most}
	}
	if sum, ok := qty.Sum(rs...); sum != (api.Res{10000, 49995000, 10000 * most}) || !ok {
		t.Errorf("P1.1: Sum = %v, %v", sum, ok)
	}
}

func TestSumLeavesItsList(t *testing.T) {
	whole := [4]api.Res{{1, 2, 3}, {4, 5, 6}, {7, 8, 9}, {10, 11, 12}}
	before := whole
	for n := range len(whole) + 1 {
		qty.Sum(whole[:n]...)
	}
	if whole != before {
		t.Errorf("P0.3: Sum made %v of %v", whole, before)
	}
}

func TestShare(t *testing.T) {
	for _, x := range []struct {
		part, whole int64
		want        int
	}{
		{0, 1, 0}, {1, 1, 100}, {2, 1, 100}, {-1, 1, 0},
		{1, 3, 33}, {2, 3, 66}, {3, 3, 100}, {4, 3, 100}, {1, 2, 50}, {7, 8, 87}, {1, 100, 1}, {1, 101, 0}, {99, 100, 99}, {199, 200, 99},
		{0, most, 0}, {1, most, 0}, {most / 100, most, 1}, {most/100 - 1, most, 0}, {most - 1, most, 99}, {most, most, 100}, {most + 1, most, 100},
		{far, most, 100}, {far + 1, 7, 100}, {math.MaxInt64, 7, 100}, {math.MaxInt64, most, 100}, {math.MinInt64, 7, 0}, {-5, most, 0},
		{5, 0, 0}, {0, 0, 0}, {5, -1, 0}, {-1, -1, 0}, {-5, -10, 0}, {5, math.MinInt64, 0}, {math.MinInt64, math.MinInt64, 0},
		{5, most + 1, 0}, {most + 1, most + 1, 0}, {far, far, 0}, {math.MaxInt64, math.MaxInt64, 0},
	} {
		if got := qty.Share(x.part, x.whole); got != x.want {
			t.Errorf("P1.1: Share(%d, %d) = %d, not %d", x.part, x.whole, got, x.want)
		}
	}
}
