package store_test

import (
	"fmt"
	"math"
	"slices"
	"testing"

	"interrex/api"
)

func TestGuards(t *testing.T) {
	for key, own := range map[string]int64{"a": 1, "p/a": 4, "p/b": 2, "p/bb": 3, "z": 8, "n/a": 0, "p/c": 0, "x": 0, "none": 0, "p/": 0, "p": 0, "p/bbb": 0, "A": 0, "\x00": 0, key20: 0} {
		for _, rev := range []int64{0, 1, 2, 3, 4, 5, 6, 7, 8, 9, math.MaxInt64, own + 1<<32} {
			for _, compact := range []int64{0, 3, 8} {
				x := begun(t)
				x.compact(compact)
				what := fmt.Sprintf("a guard of %q at %d, behind Compact %d", key, rev, compact)
				if rev == own {
					x.take(t, what, if1(put("w", ""), at(key, rev)))
					continue
				}
				x.refuse(t, what, if1(put("w", ""), at(key, rev)), api.ErrGuard)
			}
		}
	}
}

func TestUnder(t *testing.T) {
	// The last revision at which a key that begins so was written or went.
	for key, last := range map[string]int64{
		"a": 1, "p/a": 4, "p/b": 3, "p/bb": 3, "z": 8, "n/a": 5, "p/c": 6, "x": 8, "p": 6, "p/": 6, "n": 5, "n/": 5, "none": 0, "p/bbb": 0, "p/c/": 0, "aa": 0, "A": 0, "P": 0, "/": 0, "/a": 0, "b": 0, "c": 0, "\x00": 0, "\xff": 0, " ": 0, key20: 0,
	} {
		for _, rev := range []int64{0, 1, 2, 3, 4, 5, 6, 7, 8, 9, 1 << 32, math.MaxInt64} {
			for _, compact := range []int64{0, 5, 8} {
				x := begun(t)
				x.compact(compact)
				what := fmt.Sprintf("an Under guard of %q at %d, behind Compact %d", key, rev, compact)
				if rev >= last {
					x.take(t, what, if1(put("w", ""), under(key, rev)))
					continue
				}
				x.refuse(t, what, if1(put("w", ""), under(key, rev)), api.ErrGuard)
			}
		}
	}
}

func TestUnderOfOneThatBeginsAnother(t *testing.T) {
	x := both()
	x.take(t, "the shorter one", txn(put("k", "1"))) // 1
	x.take(t, "the longer one", txn(put("kk", "1"))) // 2
	for n := 1; n <= 20; n++ {
		want := api.ErrGuard
		if n > 2 {
			want = api.OK
		}
		if _, e := x.s.Txn(if1(put("other", ""), under(key20[:n], 1))); e != want {
			t.Errorf("P7.1: an Under guard of %d letters: %d", n, e)
		}
	}
	x = both()
	x.take(t, "the longest one", txn(put(key20, "1")))         // 1
	x.take(t, "the shortest one", txn(put("k", "1")))          // 2
	x.take(t, "the longest one that goes", txn(gone(key20)))   // 3
	x.take(t, "the shortest one, written", txn(put("k", "2"))) // 4
	for n := 1; n <= 20; n++ {
		last := int64(3)
		if n == 1 {
			last = 4
		}
		x.refuse(t, "one below", if1(put("other", ""), under(key20[:n], last-1)), api.ErrGuard)
		x.take(t, "at the Rev", if1(put("other", ""), under(key20[:n], last)))
		x.take(t, "one above", if1(put("other", ""), under(key20[:n], last+1)))
	}
}

// went is a pair in which the key was written @1, went @2, came again @3.
func went(t *testing.T, n int) pair {
	t.Helper()
	x := both()
	for _, w := range []api.Write{put("p/a", "1"), gone("p/a"), put("p/a", "2")}[:n] {
		x.take(t, "a key that comes and goes", txn(w))
	}
	return x
}

func TestGuardOfOneThatWent(t *testing.T) {
	for n, own := range []int64{0, 1, 0, 3} {
		for rev := range int64(6) {
			want := map[bool]api.Errno{true: api.OK, false: api.ErrGuard}
			_, e := went(t, n).s.Txn(if1(put("w", ""), at("p/a", rev)))
			if e != want[rev == own] {
				t.Errorf("P7.1: a guard at %d behind %d writes: %d", rev, n, e)
			}
			for _, key := range []string{"p", "p/", "p/a"} {
				if _, e := went(t, n).s.Txn(if1(put("w", ""), under(key, rev))); e != want[rev >= int64(n)] {
					t.Errorf("P7.1: an Under guard of %s at %d behind %d writes: %d", key, rev, n, e)
				}
			}
			// It is told in one breath what it goes by.
			x := went(t, n)
			if x.txn(t, "a guard of the key that is written", if1(put("p/a", "3"), at("p/a", rev))); x.s.Rev() != int64(n)+map[bool]int64{true: 1}[rev == own] {
				t.Errorf("P7.1: a guard at %d of what is written behind %d writes: Rev %d", rev, n, x.s.Rev())
			}
			x.ask(t, "a guard of the key that is written")
		}
	}
}

func TestUnderBehindCompact(t *testing.T) {
	// What is known no more of the log is known of the guards.
	x := both()
	x.take(t, "a key", txn(put("p/a", "1"), put("l", "")))
	x.take(t, "a key that goes", txn(gone("p/a")))
	for k := range 100 {
		x.take(t, "others", txn(put("n/a", fmt.Sprint(k))))
	}
	if x.s.Base() < 3 {
		t.Fatalf("P7.1: Base %d", x.s.Base())
	}
	for range 2 {
		for key, last := range map[string]int64{"p/a": 2, "p/": 2, "p": 2, "l": 1} {
			x.refuse(t, "one below", if1(put("w", ""), under(key, last-1)), api.ErrGuard)
			x.refuse(t, "at 0", if1(put("w", ""), under(key, 0)), api.ErrGuard)
			x.take(t, "at the Rev", if1(put("w", ""), under(key, last)))
			x.take(t, "one above", if1(put("w", ""), under(key, last+1)))
		}
		x.refuse(t, "the last one", if1(put("w", ""), under("n/", 101)), api.ErrGuard)
		x.take(t, "the last one", if1(put("w", ""), under("n/", 102)))
		x.compact(math.MaxInt64)
		x.ask(t, "Compact")
	}
}

func TestGuardsTogether(t *testing.T) {
	yes := []api.Guard{at("a", 1), at("none", 0), at("p/c", 0), under("p/", 6), under("none", 0), under("x", 99), at("z", 8)}
	no := []api.Guard{at("a", 0), at("a", 2), at("none", 1), at("p/c", 6), at("z", 1), under("p/", 5), under("x", 7), under("n/a", 1), under("a", 0)}
	begun(t).take(t, "all that hold", if1(put("w", ""), yes...))
	slices.Reverse(yes)
	begun(t).take(t, "all that hold, the other way", if1(put("w", ""), yes...))
	for _, g := range no {
		for k := range len(yes) + 1 {
			begun(t).refuse(t, fmt.Sprint("one that doesn't, at ", k), if1(put("w", ""), slices.Insert(slices.Clone(yes), k, g)...), api.ErrGuard)
		}
		for _, h := range no {
			begun(t).refuse(t, "two that don't", if1(put("w", ""), g, h), api.ErrGuard)
		}
	}
	// As many as can be, of which the last one, the first one doesn't.
	many := slices.Repeat([]api.Guard{at("a", 1)}, 20)
	begun(t).take(t, "20 that hold", if1(put("w", ""), many...))
	for _, k := range []int{0, 10, 19} {
		gs := slices.Clone(many)
		gs[k] = under("p/", 5)
		begun(t).refuse(t, fmt.Sprint("20, that at ", k, " doesn't"), if1(put("w", ""), gs...), api.ErrGuard)
	}
}

func TestGuardAndItsOwnWrite(t *testing.T) {
	// A guard is asked ahead of the writes of its txn.
	for _, ws := range [][]api.Write{{put("p/a", "new")}, {put("p/new", "")}, {gone("p/a")}, {gone("p/a"), gone("p/b"), gone("p/bb")}} {
		gs := []api.Guard{at("p/a", 4), at("p/new", 0), under("p/", 6), under("p/new", 0)}
		x := begun(t)
		x.take(t, "a guard of what is written", api.Txn{Guards: gs, Writes: ws})
		x.refuse(t, "a guard of what was written", api.Txn{Guards: gs, Writes: []api.Write{put("w", "")}}, api.ErrGuard)
		x.refuse(t, "an Under guard of what was written", if1(put("w", ""), under("p/", 8)), api.ErrGuard)
		x.take(t, "an Under guard of what was written", if1(put("w", ""), under("p/", 9)))
	}
}

func TestRefusedTouchesNothing(t *testing.T) {
	x := begun(t)
	for _, tx := range []api.Txn{
		txn(put("q/a", ""), put("q/b", ""), gone("none")), txn(gone("a"), gone("none")), if1(put("q/a", ""), at("a", 9)), if1(gone("a"), under("p/", 0)), txn(put("q/a", ""), put("q/a", "")), txn(put("q/a", ""), put("", "")), txn(put("q/a", ""), put("b", val4001)), {Guards: []api.Guard{at("q", 0), at("", 0)}, Writes: puts(3)},
	} {
		if e := x.txn(t, "one that is refused", tx); e == api.OK {
			t.Error("P7.1: Txn: OK")
		}
		x.ask(t, "behind one that is refused")
	}
	x.take(t, "what it would have touched", if1(put("w", ""), under("q", 0), under("q/a", 0), under("a", 1), at("a", 1), under("w", 0), at("q/a", 0)))
	if x.s.Rev() != 9 {
		t.Errorf("P7.1: Rev %d", x.s.Rev())
	}
}
