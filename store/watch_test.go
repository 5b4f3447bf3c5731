package store_test

import (
	"fmt"
	"math"
	"sync"
	"testing"

	"interrex/api"
	"interrex/store"
)

func TestWatch(t *testing.T) {
	s := store.New()
	s.Txn(txn(put("b", "1"), put("a", "2"), put("c", "")))
	s.Txn(txn(gone("b"), put("a", "3")))
	s.Txn(txn(gone("none")))
	s.Txn(txn(put("b", "4"), api.Write{Key: "c", Gone: true, Val: []byte{}}))
	first, second, third := `"b" 1 "1" false; "a" 1 "2" false; "c" 1 "" false; `, `"b" 2 "" true; "a" 2 "3" false; `, `"b" 3 "4" false; "c" 3 "" true; `
	for _, x := range []struct {
		rev  int64
		want string
		e    api.Errno
	}{{math.MinInt64, "", api.ErrCompact}, {-1, "", api.ErrCompact}, {0, first + second + third, api.OK}, {1, second + third, api.OK}, {2, third, api.OK}, {3, "", api.OK}, {4, "", api.ErrRange}, {1 << 32, "", api.ErrRange}, {math.MaxInt64, "", api.ErrRange}} {
		// Twice, since it changes nothing.
		for range 2 {
			if es, e := s.Watch(x.rev); events(es) != x.want || e != x.e || e != api.OK && es != nil {
				t.Errorf("P7.1: Watch(%d): %s, %d", x.rev, events(es), e)
			}
		}
	}
}

func TestCompact(t *testing.T) {
	for _, revs := range [][]int64{
		{math.MinInt64}, {-1}, {0}, {1}, {2}, {3}, {7}, {8}, {9}, {math.MaxInt64}, {3, 2}, {3, 3}, {3, 4}, {3, math.MinInt64}, {8, 1}, {9, 8, 7, -1}, {1, 2, 3, 4, 5, 6, 7, 8, 9}, {5, -5, 6, 0}, {math.MaxInt64, math.MinInt64},
	} {
		x := begun(t)
		base := int64(0)
		for _, rev := range revs {
			reads, writes := x.s.Asked()
			was := entries(x.list())
			x.compact(rev)
			base = max(base, min(rev, 8))
			if r, w := x.s.Asked(); x.s.Base() != base || x.s.Rev() != 8 || r != reads+1 || w != writes {
				t.Errorf("P7.1: Compact %v: Base %d, Rev %d, Asked %d, %d", revs, x.s.Base(), x.s.Rev(), r, w)
			}
			if got := entries(x.list()); got != was {
				t.Errorf("P7.1: Compact %v: List: %s", revs, got)
			}
			x.ask(t, fmt.Sprint("Compact ", revs))
		}
		// It goes on from where it was.
		x.take(t, fmt.Sprint("behind Compact ", revs), txn(put("a", "new"), gone("p/a")))
		x.compact(9)
		x.ask(t, fmt.Sprint("Compact ", revs, " and 9"))
		if x.s.Base() != 9 {
			t.Errorf("P7.1: Compact %v and 9: Base %d", revs, x.s.Base())
		}
	}
}

func TestMoreThanTheLogHolds(t *testing.T) {
	x := both()
	for k := range 64 {
		x.take(t, "one by one", txn(put("a", fmt.Sprint(k))))
	}
	if x.s.Base() != 0 {
		t.Errorf("P7.1: with 64 events: Base %d", x.s.Base())
	}
	for k := range 20 {
		x.take(t, "more, one by one", txn(put("a", fmt.Sprint(k))))
		if x.s.Base() != int64(k+1) {
			t.Errorf("P7.1: with %d events: Base %d", 65+k, x.s.Base())
		}
	}
	// All events of a revision go with the first one of them.
	for _, n := range []int{3, 60, 2, 64, 1, 63, 2, 64, 64, 32, 33, 1} {
		x.take(t, fmt.Sprint(n, " at once"), txn(puts(n)...))
		es, e := x.s.Watch(x.s.Base())
		x.p.reads++
		if e != api.OK || len(es) > 64 || len(es) < n {
			t.Errorf("P7.1: behind %d at once: %d events, %d", n, len(es), e)
		}
	}
	for _, c := range []struct {
		many []int
		base int64
	}{{[]int{64}, 0}, {[]int{64, 1}, 1}, {[]int{1, 64}, 1}, {[]int{63, 1}, 0}, {[]int{63, 1, 1}, 1}, {[]int{32, 32}, 0}, {[]int{32, 32, 1}, 1}, {[]int{32, 1, 33}, 1}, {[]int{1, 32, 33}, 2}, {[]int{32, 32, 32, 33}, 3}} {
		s := store.New()
		for _, n := range c.many {
			s.Txn(txn(puts(n)...))
		}
		if s.Base() != c.base || len(s.List()) == 0 {
			t.Errorf("P7.1: with %v at once: Base %d", c.many, s.Base())
		}
	}
}

func TestAsked(t *testing.T) {
	s := store.New()
	reads, writes := int64(0), int64(0)
	for _, x := range []struct {
		what          string
		call          func()
		reads, writes int64
	}{
		{"Rev", func() { s.Rev() }, 0, 0}, {"Base", func() { s.Base() }, 0, 0}, {"Asked", func() { s.Asked() }, 0, 0}, {"Compact", func() { s.Compact(0) }, 0, 0}, {"Compact far", func() { s.Compact(math.MaxInt64) }, 0, 0}, {"Compact back", func() { s.Compact(-1) }, 0, 0},
		{"Get of none", func() { s.Get("a") }, 1, 0}, {"Get of \"\"", func() { s.Get("") }, 1, 0}, {"Get of a long key", func() { s.Get(key21) }, 1, 0}, {"List", func() { s.List() }, 1, 0}, {"Watch", func() { s.Watch(s.Rev()) }, 1, 0}, {"Watch back", func() { s.Watch(-1) }, 1, 0}, {"Watch ahead", func() { s.Watch(math.MaxInt64) }, 1, 0},
		{"Txn", func() { s.Txn(txn(put("a", ""))) }, 0, 1}, {"Get", func() { s.Get("a") }, 1, 0}, {"List", func() { s.List() }, 1, 0}, {"Txn with guards", func() { s.Txn(if1(put("b", ""), at("a", s.Rev()), under("b", s.Rev()))) }, 0, 1}, {"Txn of many", func() { s.Txn(txn(puts(64)...)) }, 0, 1}, {"Txn of one that goes", func() { s.Txn(txn(gone("a"))) }, 0, 1},
		{"ErrForm", func() { s.Txn(txn()) }, 0, 1}, {"ErrForm of guards", func() { s.Txn(if1(put("a", ""), at("a", -1))) }, 0, 1}, {"ErrGuard", func() { s.Txn(if1(put("a", ""), at("none", 1))) }, 0, 1}, {"ErrNone", func() { s.Txn(txn(gone("none"))) }, 0, 1},
	} {
		for range 3 {
			x.call()
			reads, writes = reads+x.reads, writes+x.writes
			if r, w := s.Asked(); r != reads || w != writes {
				t.Errorf("P7.1: %s: Asked %d, %d; not %d, %d", x.what, r, w, reads, writes)
			}
		}
		// As it was in a store of its own.
		reads, writes = s.Asked()
	}
}

func TestManyReadAtOnce(t *testing.T) {
	// What only reads counts all the same, however many do so.
	s := begun(t).s
	reads, writes := s.Asked()
	var all sync.WaitGroup
	for range 16 {
		all.Go(func() {
			for k := range int64(500) {
				s.Get("a")
				s.List()
				s.Watch(k % 9)
			}
		})
	}
	all.Wait()
	if r, w := s.Asked(); r != reads+16*500*3 || w != writes {
		t.Errorf("P7.1: Asked %d, %d behind %d, %d", r, w, reads, writes)
	}
}
