package store_test

import (
	"fmt"
	"math"
	"strings"
	"testing"

	"interrex/api"
	"interrex/store"
)

// coin throws numbers, always the same ones.
type coin uint64

// of is a number from 0 to k less one.
func (c *coin) of(k int) int {
	*c = *c*6364136223846793005 + 1442695040888963407
	return int(*c>>33) % k
}

// key is one of few, some of which begin others.
func (c *coin) key() string {
	key := []string{"p/", "n/", "l", "p", ""}[min(c.of(12), 4)]
	for range c.of(4) {
		key += string("ab\xff"[c.of(3)])
	}
	if c.of(60) == 0 {
		key += strings.Repeat("k", 18)
	}
	return key
}

// guards are some that often hold, one by one.
func (c *coin) guards(p *plain) []api.Guard {
	var gs []api.Guard
	for range max(0, c.of(6)-2) {
		g := api.Guard{Key: c.key(), Under: c.of(2) == 0}
		e, _ := p.last(g.Key)
		switch g.Rev = e.Rev; {
		case g.Under:
			g.Rev = p.rev - int64(c.of(5))
		case e.Gone:
			g.Rev = 0
		}
		if c.of(8) == 0 {
			g.Rev += int64(c.of(3)) - 1
		}
		gs = append(gs, g)
	}
	return gs
}

// writes are some, most of which can be done.
func (c *coin) writes(p *plain) []api.Write {
	var ws []api.Write
	for range c.of(5) + c.of(2) {
		w := put(c.key(), fmt.Sprint("v", c.of(1000)))
		if _, ok := p.entry(w.Key); ok && c.of(2) == 0 || c.of(20) == 0 {
			w = gone(w.Key)
		}
		ws = append(ws, w)
	}
	if c.of(40) == 0 {
		ws = append(ws, puts(55+c.of(12))...)
	}
	return ws
}

func TestAnyTxns(t *testing.T) {
	c := coin(11)
	did := map[api.Errno]int{}
	for n := range 60 {
		x := both()
		for k := range 120 {
			what := fmt.Sprint("any txns, ", n, ", ", k)
			if c.of(15) == 0 {
				x.compact(x.p.rev + int64(c.of(20)) - 15)
				x.ask(t, what)
			}
			e := x.txn(t, what, api.Txn{Guards: c.guards(x.p), Writes: c.writes(x.p)})
			did[e]++
			if k%4 == 0 || e == api.OK {
				x.ask(t, what)
			}
		}
	}
	for _, e := range []api.Errno{api.OK, api.ErrForm, api.ErrGuard, api.ErrNone} {
		if did[e] < 100 {
			t.Errorf("of %d there were %d", e, did[e])
		}
	}
}

// TestOneAtATime: what is there is what the events leave, one behind the other, of which each revision has those of one txn.
func TestOneAtATime(t *testing.T) {
	c := coin(5)
	for range 40 {
		s, p := store.New(), &plain{}
		there := map[string]api.Entry{}
		for range 100 {
			tx := api.Txn{Guards: c.guards(p), Writes: c.writes(p)}
			was := s.Rev()
			rev, e := s.Txn(tx)
			p.txn(tx)
			es, _ := s.Watch(was)
			if e != api.OK {
				if rev != 0 || s.Rev() != was || len(es) != 0 {
					t.Fatalf("S1: error %d: revision %d, Rev %d behind %d, %d events", e, rev, s.Rev(), was, len(es))
				}
				continue
			}
			if rev != was+1 || s.Rev() != rev || len(es) != len(tx.Writes) {
				t.Fatalf("S1: revision %d, Rev %d behind %d, %d events of %d writes", rev, s.Rev(), was, len(es), len(tx.Writes))
			}
			for k, ev := range es {
				if w := tx.Writes[k]; ev.Rev != rev || ev.Key != w.Key || string(ev.Val) != string(w.Val) || ev.Gone != w.Gone {
					t.Fatalf("S1: the event %v of the write %v", ev, w)
				}
				there[ev.Key] = api.Entry{Key: ev.Key, Rev: ev.Rev, Val: ev.Val}
				if ev.Gone {
					delete(there, ev.Key)
				}
			}
			l := s.List()
			if len(l) != len(there) {
				t.Fatalf("S1: %d are there, not %d", len(l), len(there))
			}
			for _, x := range l {
				if entries([]api.Entry{x}) != entries([]api.Entry{there[x.Key]}) {
					t.Fatalf("S1: %v is there", x)
				}
			}
		}
	}
}

func TestSameAgain(t *testing.T) {
	// What it answers hangs on what it was told, on nothing else: two that were told the same tell the same, in one order.
	c := coin(9)
	p, a, b := &plain{}, store.New(), store.New()
	for range 400 {
		tx := api.Txn{Guards: c.guards(p), Writes: c.writes(p)}
		p.txn(tx)
		a.Txn(tx)
		for range c.of(3) {
			a.Get(c.key())
			a.List()
			a.Watch(int64(c.of(99)))
		}
		b.Txn(tx)
		ea, _ := a.Watch(a.Base())
		eb, _ := b.Watch(b.Base())
		if entries(a.List()) != entries(b.List()) || events(ea) != events(eb) || a.Base() != b.Base() || a.Rev() != b.Rev() {
			t.Fatal("P0.5: two that were told the same tell unlike things")
		}
	}
}

func TestManyKeys(t *testing.T) {
	const many = 200000
	s := store.New()
	for k := range many {
		key := fmt.Sprintf("p/%d", k)
		if rev, e := s.Txn(if1(put(key, "v"), under("n/", 0), under(key, int64(k)), at(key, 0))); rev != int64(2*k+1) || e != api.OK {
			t.Fatalf("P7.1: Txn %d: %d, %d", k, rev, e)
		}
		if rev, e := s.Txn(if1(gone(key), under("p/", int64(2*k+1)), at(key, int64(2*k+1)))); rev != int64(2*k+2) || e != api.OK {
			t.Fatalf("P7.1: Txn %d that lets go: %d, %d", k, rev, e)
		}
	}
	// The first ones that went are still known.
	for k := range int64(9) {
		if _, e := s.Txn(if1(put("l", ""), under(fmt.Sprintf("p/%d", many-1-k), 2*(many-k)-1))); e != api.ErrGuard {
			t.Errorf("P7.1: Under one that went: %d", e)
		}
	}
	if _, e := s.Txn(if1(put("l", ""), under("p/", math.MaxInt64))); e != api.OK || len(s.List()) != 1 {
		t.Errorf("P7.1: Under all: %d, %d are there", e, len(s.List()))
	}
}

func FuzzTxns(f *testing.F) {
	f.Add([]byte("p/a1p/a0p/b2"))
	f.Add([]byte{0, 1, 2, 3, 250, 251, 252, 253, 254, 255, 7, 7, 7, 9, 13})
	f.Fuzz(func(t *testing.T, b []byte) {
		x := both()
		for len(b) > 1 {
			c := coin(uint64(b[0])<<8 | uint64(b[1]))
			b = b[2:]
			if c.of(9) == 0 {
				x.compact(int64(c.of(99)))
			}
			x.txn(t, "any txns", api.Txn{Guards: c.guards(x.p), Writes: c.writes(x.p)})
			x.ask(t, "any txns")
		}
	})
}
