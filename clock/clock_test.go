package clock_test

import (
	"fmt"
	"math"
	"slices"
	"testing"

	"interrex/clock"
)

const (
	mostAdv = 1000000
	mostNow = 1 << 50
)

// plain is clocks as the chapter's words have them, one by one: all that they told behind New and behind each Tick.
type plain struct {
	n       int
	moments [][]int64
}

func newPlain(n int) *plain {
	n = min(max(n, 1), 8)
	return &plain{n, [][]int64{make([]int64, n)}}
}

// now is what the clocks tell last.
func (p *plain) now() []int64 {
	return p.moments[len(p.moments)-1]
}

func (p *plain) tick(adv []int64) bool {
	next := slices.Clone(p.now())
	for i := range next {
		if i >= len(adv) {
			continue
		}
		if adv[i] < 0 || adv[i] > mostAdv {
			return false
		}
		if next[i] += adv[i]; next[i] > mostNow {
			return false
		}
	}
	p.moments = append(p.moments, next)
	return true
}

// drift goes through all pairs of clocks and all pairs of moments.
func (p *plain) drift() int64 {
	var most int64
	for k, to := range p.moments {
		for _, from := range p.moments[:k] {
			for i := range p.n {
				for j := range p.n {
					most = max(most, (to[i]-from[i])-(to[j]-from[j]))
				}
			}
		}
	}
	return most
}

// nows tells the first n clocks.
func nows(c *clock.Clocks, n int) []int64 {
	var all []int64
	for i := range n {
		all = append(all, c.Now(i))
	}
	return all
}

// ask asks all clocks and Drift, which are to be those of want.
func ask(t *testing.T, what string, c *clock.Clocks, want *plain) {
	t.Helper()
	if now := nows(c, want.n); !slices.Equal(now, want.now()) {
		t.Fatalf("P10.1: %s: Now %v, not %v", what, now, want.now())
	}
	if d := c.Drift(); d != want.drift() {
		t.Fatalf("P10.1: %s: Drift %d, not %d", what, d, want.drift())
	}
	for _, i := range []int{math.MinInt, -1, want.n, want.n + 1, 8, 64, math.MaxInt} {
		if now := c.Now(i); now != 0 {
			t.Fatalf("P10.1: %s: Now(%d) of no such clock: %d", what, i, now)
		}
	}
}

// tick does a Tick to both, and asks them.
func tick(t *testing.T, what string, c *clock.Clocks, want *plain, adv ...int64) {
	t.Helper()
	what = fmt.Sprint(what, ", Tick ", adv)
	if ok, wantOk := c.Tick(adv...), want.tick(adv); ok != wantOk {
		t.Fatalf("P10.1: %s: %v", what, ok)
	}
	ask(t, what, c, want)
}

// refuse does a Tick that is to be refused.
func refuse(t *testing.T, what string, c *clock.Clocks, want *plain, adv ...int64) {
	t.Helper()
	what = fmt.Sprint(what, ", Tick ", adv)
	if c.Tick(adv...) {
		t.Fatalf("P10.1: %s: true", what)
	}
	ask(t, what, c, want)
}

// alike is n times adv.
func alike(n int, adv int64) []int64 {
	return slices.Repeat([]int64{adv}, n)
}

// alone is adv for the i-th of n clocks, and other for the rest.
func alone(n, i int, adv, other int64) []int64 {
	all := alike(n, other)
	all[i] = adv
	return all
}

func TestNew(t *testing.T) {
	for _, x := range []struct{ n, want int }{{math.MinInt, 1}, {math.MinInt + 8, 1}, {-8, 1}, {-1, 1}, {0, 1}, {1, 1}, {2, 2}, {3, 3}, {4, 4}, {5, 5}, {6, 6}, {7, 7}, {8, 8}, {9, 8}, {64, 8}, {1<<32 + 3, 8}, {math.MaxInt - 1, 8}, {math.MaxInt, 8}} {
		c, want := clock.New(x.n), newPlain(x.want)
		ask(t, fmt.Sprint("New ", x.n), c, want)
		tick(t, fmt.Sprint("New ", x.n), c, want, 1, 2, 3, 4, 5, 6, 7, 8, 9, 10)
		if d := c.Drift(); d != int64(x.want-1) {
			t.Errorf("P10.1: New(%d): Drift %d", x.n, d)
		}
	}
}

func TestNewClocksAreApart(t *testing.T) {
	a, b := clock.New(2), clock.New(2)
	wantA, wantB := newPlain(2), newPlain(2)
	tick(t, "the first", a, wantA, 5, 0)
	ask(t, "the second", b, wantB)
	tick(t, "the second", b, wantB, 0, 7)
	ask(t, "the first", a, wantA)
	ask(t, "another", clock.New(2), newPlain(2))
}

func TestTickOneClock(t *testing.T) {
	c, want := clock.New(1), newPlain(1)
	for _, adv := range []int64{0, 1, 2, 500, 0, mostAdv - 1, mostAdv, 1} {
		tick(t, "one clock", c, want, adv)
	}
	if now := c.Now(0); now != 2*mostAdv+503 || c.Drift() != 0 {
		t.Errorf("P10.1: one clock: Now %d, Drift %d", now, c.Drift())
	}
}

func TestTickAlike(t *testing.T) {
	for n := 1; n <= 8; n++ {
		c, want := clock.New(n), newPlain(n)
		for _, adv := range []int64{1, 0, 1000, mostAdv, mostAdv, 7} {
			tick(t, fmt.Sprint(n, " alike"), c, want, alike(n, adv)...)
		}
		if now := c.Now(n - 1); now != 2*mostAdv+1008 || c.Drift() != 0 {
			t.Errorf("P10.1: %d alike: Now %d, Drift %d", n, now, c.Drift())
		}
	}
}

func TestTickUnlike(t *testing.T) {
	c, want := clock.New(8), newPlain(8)
	tick(t, "eight", c, want, 1, 2, 3, 4, 5, 6, 7, 8)
	tick(t, "eight", c, want, 80, 70, 60, 50, 40, 30, 20, 10)
	tick(t, "eight", c, want, 0, mostAdv, 0, mostAdv, 0, mostAdv, 0, mostAdv)
	if now := nows(c, 8); !slices.Equal(now, []int64{81, mostAdv + 72, 63, mostAdv + 54, 45, mostAdv + 36, 27, mostAdv + 18}) {
		t.Errorf("P10.1: eight unlike: %v", now)
	}
}

func TestTickHowMany(t *testing.T) {
	for n := 1; n <= 8; n++ {
		c, want := clock.New(n), newPlain(n)
		tick(t, fmt.Sprint(n), c, want, alone(n, n-1, 9, 4)...)
		// From nothing to more than there are.
		for given := range n + 4 {
			adv := alike(given, 3)
			for i := range adv {
				adv[i] += int64(i)
			}
			tick(t, fmt.Sprint(n), c, want, adv...)
		}
		tick(t, fmt.Sprint(n), c, want, alike(1000, 1)...)
	}
}

func TestTickWithNothing(t *testing.T) {
	for _, n := range []int{1, 2, 8} {
		c, want := clock.New(n), newPlain(n)
		for range 3 {
			if !c.Tick() || !c.Tick(nil...) || !c.Tick([]int64{}...) || !c.Tick(make([]int64, 0, 5)...) {
				t.Errorf("P10.1: %d: Tick with nothing: false", n)
			}
			ask(t, fmt.Sprint(n, ", with nothing"), c, want)
			tick(t, fmt.Sprint(n), c, want, 5)
		}
	}
}

func TestTickCountsForNothing(t *testing.T) {
	for n := 1; n <= 8; n++ {
		for _, more := range [][]int64{{-1}, {mostAdv + 1}, {math.MinInt64}, {math.MaxInt64}, {math.MaxInt64 - 1}, {mostNow + 1}, {0, -5, 7}, {math.MinInt64, math.MaxInt64, -1, mostAdv + 1, 0, 1, 2, 3, 4}} {
			c, want := clock.New(n), newPlain(n)
			for range 2 {
				adv := append(alone(n, 0, mostAdv, 2), more...)
				if !c.Tick(adv...) || !want.tick(adv) {
					t.Fatalf("P10.1: %d: Tick %v: false", n, adv)
				}
				ask(t, fmt.Sprint(n, ", Tick ", adv), c, want)
			}
		}
	}
}

func TestTickEnds(t *testing.T) {
	for n := 1; n <= 8; n++ {
		for i := range n {
			for _, adv := range []int64{0, 1, mostAdv - 1, mostAdv} {
				c, want := clock.New(n), newPlain(n)
				all := alone(n, i, adv, 6)
				if !c.Tick(all...) || !want.tick(all) {
					t.Fatalf("P10.1: %d: Tick %v: false", n, all)
				}
				ask(t, fmt.Sprint(n, ", Tick ", all), c, want)
			}
		}
	}
}

func TestTickRefusedForOne(t *testing.T) {
	for n := 1; n <= 8; n++ {
		for i := range n {
			for _, adv := range []int64{-1, -2, mostAdv + 1, mostAdv + 2, 1 << 32, 1<<32 + 1, mostNow, mostNow + 1, -mostNow, math.MinInt64, math.MinInt64 + 1, math.MaxInt64 - 1, math.MaxInt64} {
				what := fmt.Sprint(n, ", the ", i, "-th refused")
				c, want := clock.New(n), newPlain(n)
				refuse(t, what, c, want, alone(n, i, adv, 500)...)
				tick(t, what, c, want, alone(n, n-1, 30, 10)...)
				for range 2 {
					refuse(t, what, c, want, alone(n, i, adv, 500)...)
					refuse(t, what, c, want, alone(n, i, adv, 0)...)
					refuse(t, what, c, want, alone(n, i, adv, 0)[:i+1]...)
					refuse(t, what, c, want, append(alone(n, i, adv, 500), 1, 2, 3)...)
					refuse(t, what, c, want, alike(n, adv)...)
				}
				// It goes on as if nothing was asked.
				if !c.Tick(alone(n, 0, 100, 1)...) || !want.tick(alone(n, 0, 100, 1)) {
					t.Fatalf("P10.1: %s: the next Tick: false", what)
				}
				ask(t, what+", the next Tick", c, want)
			}
		}
	}
}

func TestNow(t *testing.T) {
	for n := 1; n <= 8; n++ {
		c := clock.New(n)
		adv := make([]int64, 12)
		for i := range adv {
			adv[i] = int64(10 + i)
		}
		c.Tick(adv...)
		c.Tick(adv...)
		for i := -20; i <= 20; i++ {
			want := int64(0)
			if i >= 0 && i < n {
				want = 2 * int64(10+i)
			}
			// Twice, since it changes nothing.
			for range 2 {
				if now := c.Now(i); now != want {
					t.Errorf("P10.1: %d: Now(%d): %d", n, i, now)
				}
			}
		}
		for _, i := range []int{math.MinInt, math.MinInt + 1, -1 << 32, 1 << 32, 1<<32 + n - 1, math.MaxInt - 1, math.MaxInt} {
			if now := c.Now(i); now != 0 {
				t.Errorf("P10.1: %d: Now(%d): %d", n, i, now)
			}
		}
	}
}

func TestFarOn(t *testing.T) {
	// Beyond what 32 bits hold: what the clocks tell, and how far they are apart.
	c := clock.New(3)
	for range 10000 {
		if !c.Tick(mostAdv, 0, mostAdv-1) {
			t.Fatal("P10.1: Tick: false")
		}
	}
	if now := nows(c, 3); !slices.Equal(now, []int64{10000 * mostAdv, 0, 10000 * (mostAdv - 1)}) || c.Drift() != 10000*mostAdv {
		t.Errorf("P10.1: far on: Now %v, Drift %d", now, c.Drift())
	}
	for range 5000 {
		c.Tick(0, mostAdv)
	}
	if c.Now(1) != 5000*mostAdv || c.Drift() != 10000*mostAdv {
		t.Errorf("P10.1: far on: Now %d, Drift %d", c.Now(1), c.Drift())
	}
	for range 9000 {
		c.Tick(0, mostAdv)
	}
	if c.Now(1) != 14000*mostAdv || c.Drift() != 14000*mostAdv {
		t.Errorf("P10.1: far on: Now %d, Drift %d", c.Now(1), c.Drift())
	}
}

// TestMostNow takes some seconds: no clock comes to 2^50 in fewer Ticks.
func TestMostNow(t *testing.T) {
	t.Parallel()
	const left = mostNow % mostAdv
	c := clock.New(2)
	adv := alike(2, mostAdv)
	for range mostNow / mostAdv {
		if !c.Tick(adv...) {
			t.Fatalf("P10.1: Tick behind %v: false", nows(c, 2))
		}
	}
	for k, x := range []struct {
		adv    []int64
		ok     bool
		behind [2]int64 // by how much the clocks are behind 2^50 then
		drift  int64
	}{
		{[]int64{left + 1}, false, [2]int64{left, left}, 0},
		{[]int64{left + 1, 5}, false, [2]int64{left, left}, 0},
		{[]int64{5, left + 1}, false, [2]int64{left, left}, 0},
		{[]int64{mostAdv, mostAdv}, false, [2]int64{left, left}, 0},
		{[]int64{left}, true, [2]int64{0, left}, left},
		{[]int64{1}, false, [2]int64{0, left}, left},
		{[]int64{1, 5}, false, [2]int64{0, left}, left},
		{[]int64{mostAdv, 5}, false, [2]int64{0, left}, left},
		{[]int64{math.MaxInt64, 5}, false, [2]int64{0, left}, left},
		{[]int64{math.MinInt64, 5}, false, [2]int64{0, left}, left},
		{[]int64{0, 5}, true, [2]int64{0, left - 5}, left},
		{[]int64{0, left - 4}, false, [2]int64{0, left - 5}, left},
		{[]int64{0, left - 5}, true, [2]int64{0, 0}, left},
		{[]int64{0, 1}, false, [2]int64{0, 0}, left},
		{[]int64{1, 0}, false, [2]int64{0, 0}, left},
		{[]int64{1, 1}, false, [2]int64{0, 0}, left},
		{nil, true, [2]int64{0, 0}, left},
		{[]int64{0, 0}, true, [2]int64{0, 0}, left},
		{[]int64{0, 0, 1}, true, [2]int64{0, 0}, left},
	} {
		ok := c.Tick(x.adv...)
		if behind := [2]int64{mostNow - c.Now(0), mostNow - c.Now(1)}; ok != x.ok || behind != x.behind || c.Drift() != x.drift {
			t.Errorf("P10.1, %d: Tick %v: %v, 2^50 less %v, Drift %d", k, x.adv, ok, behind, c.Drift())
		}
	}
}

func TestHandedIn(t *testing.T) {
	for _, n := range []int{1, 2, 3, 8} {
		c, want := clock.New(n), newPlain(n)
		for given := range n + 3 {
			for _, bad := range []bool{false, true} {
				room := []int64{7, -1, 9, math.MaxInt64, 0, 5, mostAdv, 3, 8, math.MinInt64, 2, 1, 4, 6}
				adv := room[:given]
				for i := range adv {
					adv[i] = int64(i + 1)
				}
				if bad && given > 0 {
					adv[given-1] = -3
				}
				was := slices.Clone(room)
				tick(t, fmt.Sprint(n, ", a piece"), c, want, adv...)
				if !slices.Equal(room, was) {
					t.Fatalf("P0.3: Tick of %d writes to what it was given: %v, not %v", given, room, was)
				}
				for i := range room {
					room[i] = 77
				}
				ask(t, fmt.Sprint(n, ", what was given written to"), c, want)
			}
		}
		tick(t, fmt.Sprint(n, ", a piece"), c, want, alike(n, 5)...)
	}
}

func TestNilClocks(t *testing.T) {
	var c *clock.Clocks
	for _, adv := range [][]int64{nil, {}, {0}, {1}, {-1}, {mostAdv}, {math.MinInt64}, {math.MaxInt64}, alike(8, 1), alike(9, 0)} {
		if c.Tick(adv...) {
			t.Errorf("P10.1: nil: Tick %v: true", adv)
		}
	}
	for _, i := range []int{math.MinInt, -1, 0, 1, 7, 8, math.MaxInt} {
		if now := c.Now(i); now != 0 {
			t.Errorf("P10.1: nil: Now(%d): %d", i, now)
		}
	}
	if d := c.Drift(); d != 0 {
		t.Errorf("P10.1: nil: Drift %d", d)
	}
}

func TestNoClocks(t *testing.T) {
	// Such as New did not make: there is none to go on.
	c := new(clock.Clocks)
	for range 2 {
		if c.Tick() || c.Tick(0) || c.Tick(1, 2) || c.Tick(-1) || c.Tick(alike(20, 1)...) {
			t.Error("P10.1: no clocks: Tick: true")
		}
		if c.Now(0) != 0 || c.Now(-1) != 0 || c.Now(7) != 0 || c.Now(8) != 0 || c.Drift() != 0 {
			t.Errorf("P10.1: no clocks: Now %v, Drift %d", nows(c, 9), c.Drift())
		}
	}
}
