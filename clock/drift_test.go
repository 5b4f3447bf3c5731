package clock_test

import (
	"fmt"
	"math"
	"runtime"
	"slices"
	"testing"

	"interrex/clock"
)

func TestDrift(t *testing.T) {
	for _, x := range []struct {
		what   string
		n      int
		ticks  [][]int64
		drifts []int64 // behind each Tick
	}{
		{"one clock", 1, [][]int64{{5}, {0}, {mostAdv}}, []int64{0, 0, 0}},
		{"alike", 3, [][]int64{{5, 5, 5}, {9, 9, 9}}, []int64{0, 0}},
		{"the first stands", 3, [][]int64{{0, 4, 4}, {0, 4, 4}, {0, 4, 5}}, []int64{4, 8, 13}},
		{"the last stands", 3, [][]int64{{4, 4}, {4, 4}, {5, 4}}, []int64{4, 8, 13}},
		{"from behind New on", 2, [][]int64{{7, 0}, {3, 3}}, []int64{7, 7}},
		{"not from behind New on", 2, [][]int64{{7, 0}, {0, 10}}, []int64{7, 10}},
		{"behind one Tick alone", 2, [][]int64{{mostAdv, mostAdv}, {0, 1}, {mostAdv, mostAdv}}, []int64{0, 1, 1}},
		{"once ahead, then the other one", 2, [][]int64{{8, 0}, {0, 8}, {0, 8}}, []int64{8, 8, 16}},
		{"the other one ahead first", 2, [][]int64{{0, 8}, {8, 0}, {8, 0}}, []int64{8, 8, 16}},
		{"ahead and alike again", 2, [][]int64{{6, 0}, {0, 6}, {1, 1}}, []int64{6, 6, 6}},
		{"two moments in the midst", 2, [][]int64{{10, 0}, {0, 25}, {15, 0}, {3, 3}}, []int64{10, 25, 25, 25}},
		{"two moments in the midst, the other way", 2, [][]int64{{0, 10}, {25, 0}, {0, 15}, {3, 3}}, []int64{10, 25, 25, 25}},
		{"over more than one Tick in the midst", 2, [][]int64{{10, 0}, {0, 6}, {1, 1}, {0, 6}, {0, 6}, {8, 0}}, []int64{10, 10, 10, 12, 18, 18}},
		{"back and forth, not added up", 2, [][]int64{{5, 0}, {0, 5}, {5, 0}, {0, 5}, {5, 0}}, []int64{5, 5, 5, 5, 5}},
		{"taking turns, further each time", 2, [][]int64{{1, 0}, {0, 2}, {3, 0}, {0, 4}}, []int64{1, 2, 3, 4}},
		{"it never falls", 2, [][]int64{{100, 0}, {0, 50}, {0, 50}, {7, 7}}, []int64{100, 100, 100, 100}},
		{"two of three", 3, [][]int64{{5, 0, 0}, {0, 5, 0}, {0, 0, 9}}, []int64{5, 5, 9}},
		{"not a sum over three", 3, [][]int64{{5, 2, 0}, {0, 3, 5}, {0, 3, 5}, {0, 0, 5}}, []int64{5, 5, 10, 15}},
		{"the two in the midst", 4, [][]int64{{1, 9, 0, 1}, {1, 0, 12, 1}}, []int64{9, 12}},
		{"the first and the last of eight", 8, [][]int64{{9, 5, 5, 5, 5, 5, 5, 1}, {1, 5, 5, 5, 5, 5, 5, 9}, {1, 5, 5, 5, 5, 5, 5, 9}}, []int64{8, 8, 16}},
	} {
		c, want := clock.New(x.n), newPlain(x.n)
		for k, adv := range x.ticks {
			tick(t, x.what, c, want, adv...)
			// Twice, since it changes nothing.
			for range 2 {
				if d := c.Drift(); d != x.drifts[k] {
					t.Errorf("P10.1: %s: Drift %d behind Tick %d, not %d", x.what, d, k, x.drifts[k])
				}
			}
		}
	}
}

func TestDriftNotAskedBetween(t *testing.T) {
	// It hangs on what was told, not on when it is asked.
	c := clock.New(2)
	for _, adv := range [][]int64{{10, 0}, {0, 25}, {15, 0}, {3, 3}} {
		c.Tick(adv...)
	}
	if d := c.Drift(); d != 25 || c.Now(0) != c.Now(1) {
		t.Errorf("P10.1: Drift %d, Now %v", d, nows(c, 2))
	}
}

func TestDriftEachPair(t *testing.T) {
	// Each clock is once ahead of each other one, all others going on in the midst of the two.
	for n := 2; n <= 8; n++ {
		for i := range n {
			for j := range n {
				if i == j {
					continue
				}
				what := fmt.Sprint(n, ": ", i, " ahead of ", j)
				c, want := clock.New(n), newPlain(n)
				adv := alone(n, i, 9, 4)
				adv[j] = 0
				tick(t, what, c, want, adv...)
				adv[i], adv[j] = 0, 9
				tick(t, what, c, want, adv...)
				tick(t, what, c, want, adv...)
				adv[i] = 9
				tick(t, what, c, want, adv...)
				if d := c.Drift(); d != 18 {
					t.Errorf("P10.1: %s: Drift %d", what, d)
				}
			}
		}
	}
}

func TestDriftOfOneThatStands(t *testing.T) {
	for n := 2; n <= 8; n++ {
		for i := range n {
			what := fmt.Sprint(n, ": ", i, " stands")
			c, want := clock.New(n), newPlain(n)
			tick(t, what, c, want, alike(n, 100)...)
			for range 5 {
				tick(t, what, c, want, alone(n, i, 0, 7)...)
			}
			tick(t, what, c, want, alone(n, i, 35, 0)...)
			if d := c.Drift(); d != 35 {
				t.Errorf("P10.1: %s: Drift %d", what, d)
			}
		}
	}
}

func TestDriftOfTurns(t *testing.T) {
	for n := 2; n <= 8; n++ {
		c, want := clock.New(n), newPlain(n)
		for k := range 5 * n {
			tick(t, fmt.Sprint(n, " by turns"), c, want, alone(n, k%n, 10, 0)...)
		}
		if d := c.Drift(); d != 10 {
			t.Errorf("P10.1: %d by turns: Drift %d", n, d)
		}
	}
}

func TestDriftOfRefused(t *testing.T) {
	// What was refused is no moment.
	c, want := clock.New(3), newPlain(3)
	tick(t, "three", c, want, 10, 0, 5)
	refuse(t, "three", c, want, 900, 0, -1)
	refuse(t, "three", c, want, -1, 900, 900)
	refuse(t, "three", c, want, 0, 900, mostAdv+1)
	tick(t, "three", c, want, 0, 12, 5)
	if d := c.Drift(); d != 12 {
		t.Errorf("P10.1: Drift %d", d)
	}
}

// coin throws numbers, always the same ones.
type coin uint64

// of is a number from 0 to k less one.
func (c *coin) of(k int) int {
	*c = *c*6364136223846793005 + 1442695040888963407
	return int(*c>>33) % k
}

// adv is what may be handed to a Tick: mostly of a few ticks, at times such as is refused.
func (c *coin) adv() []int64 {
	var adv []int64
	for range c.of(11) {
		a := int64(c.of(20))
		switch c.of(40) {
		case 0:
			a = mostAdv - 1 + int64(c.of(3))
		case 1:
			a = -1
		case 2:
			a = []int64{math.MinInt64, math.MaxInt64, mostNow}[c.of(3)]
		}
		adv = append(adv, a)
	}
	return adv
}

func TestAnyCalls(t *testing.T) {
	c := coin(5)
	for n := -1; n <= 9; n++ {
		for range 20 {
			clocks, want := clock.New(n), newPlain(n)
			for range 30 {
				tick(t, fmt.Sprint("New ", n), clocks, want, c.adv()...)
			}
		}
	}
}

func TestDriftIsTheSameForWhatIsAlike(t *testing.T) {
	a, b := clock.New(8), clock.New(8)
	c, d := coin(9), coin(9)
	for range 200 {
		if a.Tick(c.adv()...) != b.Tick(d.adv()...) || a.Drift() != b.Drift() || !slices.Equal(nows(a, 8), nows(b, 8)) {
			t.Fatal("P0.5: two that were told alike answer unlike")
		}
	}
}

func TestManyTicks(t *testing.T) {
	// Moments are not kept: there may be more of them than memory.
	held := func() uint64 {
		runtime.GC()
		var m runtime.MemStats
		runtime.ReadMemStats(&m)
		return m.HeapAlloc
	}
	c := clock.New(8)
	before := held()
	adv := []int64{1, 2, 3, 4, 5, 6, 7, 8}
	for k := range 1 << 20 {
		adv[k&7] ^= int64(k & 15)
		if !c.Tick(adv...) {
			t.Fatalf("P10.1: Tick %v: false", adv)
		}
	}
	if now := held(); now > before+1<<20 {
		t.Errorf("P10.1: many Ticks are kept: %d bytes more", now-before)
	}
	for range 1 << 16 {
		c.Drift()
	}
	if c.Now(0) == 0 || c.Drift() == 0 {
		t.Error("P10.1: many Ticks: 0")
	}
}
