package store_test

import (
	"fmt"
	"math"
	"slices"
	"strings"
	"testing"

	"interrex/api"
	"interrex/store"
)

// put is a write of a key's new value.
func put(key, val string) api.Write { return api.Write{Key: key, Val: []byte(val)} }

// gone lets a key go.
func gone(key string) api.Write { return api.Write{Key: key, Gone: true} }

// at is a guard of a key's own revision.
func at(key string, rev int64) api.Guard { return api.Guard{Key: key, Rev: rev} }

// under is a guard of all keys that begin so.
func under(key string, rev int64) api.Guard { return api.Guard{Key: key, Rev: rev, Under: true} }

// txn is one without guards.
func txn(ws ...api.Write) api.Txn { return api.Txn{Writes: ws} }

// if1 is one with guards, of one write.
func if1(w api.Write, gs ...api.Guard) api.Txn {
	return api.Txn{Guards: gs, Writes: []api.Write{w}}
}

// plain is a store as the chapter's words have it, one by one: it keeps all that was ever done.
type plain struct {
	all           []api.Event
	rev           int64
	kept          []api.Event
	base          int64
	reads, writes int64
}

// last is what was last done to key; false: nothing ever was.
func (p *plain) last(key string) (api.Event, bool) {
	for _, e := range slices.Backward(p.all) {
		if e.Key == key {
			return e, true
		}
	}
	return api.Event{}, false
}

func (p *plain) get(key string) (api.Entry, bool) {
	p.reads++
	return p.entry(key)
}

func (p *plain) entry(key string) (api.Entry, bool) {
	e, ok := p.last(key)
	if !ok || e.Gone {
		return api.Entry{}, false
	}
	return api.Entry{Key: key, Rev: e.Rev, Val: e.Val}, true
}

// keys are all that ever were, by rising ones.
func (p *plain) keys() []string {
	var keys []string
	for _, e := range p.all {
		keys = append(keys, e.Key)
	}
	slices.Sort(keys)
	return slices.Compact(keys)
}

func (p *plain) list() []api.Entry {
	p.reads++
	var es []api.Entry
	for _, key := range p.keys() {
		if e, ok := p.entry(key); ok {
			es = append(es, e)
		}
	}
	return es
}

func (p *plain) watch(rev int64) ([]api.Event, api.Errno) {
	p.reads++
	if rev < p.base {
		return nil, api.ErrCompact
	}
	if rev > p.rev {
		return nil, api.ErrRange
	}
	return slices.DeleteFunc(slices.Clone(p.kept), func(e api.Event) bool { return e.Rev <= rev }), api.OK
}

// drop lets what is kept go, up to rev.
func (p *plain) drop(rev int64) {
	p.kept = slices.DeleteFunc(slices.Clone(p.kept), func(e api.Event) bool { return e.Rev <= rev })
	p.base = rev
}

func (p *plain) compact(rev int64) {
	p.drop(max(p.base, min(rev, p.rev)))
}

// form says whether the chapter has such a txn.
func form(t api.Txn) bool {
	if len(t.Guards) > 20 || len(t.Writes) > 64 || len(t.Writes) == 0 {
		return false
	}
	for _, g := range t.Guards {
		if g.Key == "" || len(g.Key) > 20 || g.Rev < 0 {
			return false
		}
	}
	for k, w := range t.Writes {
		if w.Key == "" || len(w.Key) > 20 || w.Gone && len(w.Val) > 0 || len(w.Val) > 4000 {
			return false
		}
		for j, v := range t.Writes {
			if j != k && v.Key == w.Key {
				return false
			}
		}
	}
	return true
}

// holds says whether a guard holds, by all that was ever done.
func (p *plain) holds(g api.Guard) bool {
	if !g.Under {
		e, _ := p.entry(g.Key)
		return e.Rev == g.Rev
	}
	for _, e := range p.all {
		if strings.HasPrefix(e.Key, g.Key) && e.Rev > g.Rev {
			return false
		}
	}
	return true
}

func (p *plain) txn(t api.Txn) (int64, api.Errno) {
	p.writes++
	if !form(t) {
		return 0, api.ErrForm
	}
	for _, g := range t.Guards {
		if !p.holds(g) {
			return 0, api.ErrGuard
		}
	}
	for _, w := range t.Writes {
		if _, ok := p.entry(w.Key); w.Gone && !ok {
			return 0, api.ErrNone
		}
	}
	p.rev++
	for _, w := range t.Writes {
		e := api.Event{Rev: p.rev, Key: w.Key, Val: slices.Clone(w.Val), Gone: w.Gone}
		p.all, p.kept = append(p.all, e), append(p.kept, e)
	}
	for len(p.kept) > 64 {
		p.drop(p.kept[0].Rev)
	}
	return p.rev, api.OK
}

// entries tells entries with all their parts.
func entries(es []api.Entry) string {
	var b strings.Builder
	for _, e := range es {
		fmt.Fprintf(&b, "%q %d %q; ", e.Key, e.Rev, e.Val)
	}
	return b.String()
}

// events tells events with all their parts.
func events(es []api.Event) string {
	var b strings.Builder
	for _, e := range es {
		fmt.Fprintf(&b, "%q %d %q %v; ", e.Key, e.Rev, e.Val, e.Gone)
	}
	return b.String()
}

// pair is a store, and the plain one to which the same is done.
type pair struct {
	s *store.Store
	p *plain
}

// both are new.
func both() pair { return pair{store.New(), &plain{}} }

// txn does t in both, which are to answer the same, and says which error.
func (x pair) txn(t *testing.T, what string, tx api.Txn) api.Errno {
	t.Helper()
	rev, e := x.s.Txn(tx)
	wantRev, wantE := x.p.txn(tx)
	if rev != wantRev || e != wantE {
		t.Fatalf("P7.1: %s: Txn: %d, %d; not %d, %d", what, rev, e, wantRev, wantE)
	}
	return e
}

// list is List, asked of one and counted in both.
func (x pair) list() []api.Entry {
	x.p.reads++
	return x.s.List()
}

// compact does it in both.
func (x pair) compact(rev int64) {
	x.s.Compact(rev)
	x.p.compact(rev)
}

// ask asks all that can be asked, of each key that ever was and of some others, of each revision worth asking.
func (x pair) ask(t *testing.T, what string) {
	t.Helper()
	if x.s.Rev() != x.p.rev || x.s.Base() != x.p.base {
		t.Fatalf("P7.1: %s: Rev %d, Base %d; not %d, %d", what, x.s.Rev(), x.s.Base(), x.p.rev, x.p.base)
	}
	if got, want := entries(x.s.List()), entries(x.p.list()); got != want {
		t.Fatalf("S1: %s: List: %s; not %s", what, got, want)
	}
	for _, key := range append(x.p.keys(), "", "none", "\x00", "p", "p/", "pp", strings.Repeat("k", 21)) {
		e, ok := x.s.Get(key)
		wantE, want := x.p.get(key)
		if ok != want || entries([]api.Entry{e}) != entries([]api.Entry{wantE}) {
			t.Fatalf("P7.1: %s: Get(%q): %v, %v; not %v, %v", what, key, e, ok, wantE, want)
		}
		if !ok && e.Val != nil {
			t.Fatalf("P7.1: %s: Get(%q): false, and a Val", what, key)
		}
	}
	for _, rev := range x.revs() {
		x.watch(t, what, rev)
	}
	x.asked(t, what)
}

// revs are those worth asking.
func (x pair) revs() []int64 {
	revs := []int64{math.MinInt64, math.MinInt64 + 1, -1, 0, 1, math.MaxInt64 - 1, math.MaxInt64}
	for d := range int64(4) {
		revs = append(revs, x.p.base-d, x.p.base+d, x.p.rev-d, x.p.rev+d, x.p.base+(x.p.rev-x.p.base)/2)
	}
	slices.Sort(revs)
	return slices.Compact(revs)
}

// watch asks Watch of rev.
func (x pair) watch(t *testing.T, what string, rev int64) {
	t.Helper()
	es, e := x.s.Watch(rev)
	wantEs, wantE := x.p.watch(rev)
	if e != wantE || events(es) != events(wantEs) {
		t.Fatalf("P7.1: %s: Watch(%d): %s, %d; not %s, %d", what, rev, events(es), e, events(wantEs), wantE)
	}
	if e != api.OK && len(es) != 0 {
		t.Fatalf("P0.2: %s: Watch(%d): events beside error %d", what, rev, e)
	}
}

// asked asks Asked.
func (x pair) asked(t *testing.T, what string) {
	t.Helper()
	if r, w := x.s.Asked(); r != x.p.reads || w != x.p.writes {
		t.Fatalf("P7.1: %s: Asked %d, %d; not %d, %d", what, r, w, x.p.reads, x.p.writes)
	}
}
