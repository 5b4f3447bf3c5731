package reply_test

import (
	"bytes"
	"fmt"
	"math"
	"strings"
	"testing"

	"interrex/api"
	"interrex/call"
	"interrex/reply"
	"interrex/store"
)

// set, drop: writes.
func set(key, val string) api.Write { return api.Write{Key: key, Val: []byte(val)} }

func drop(key string) api.Write { return api.Write{Key: key, Gone: true} }

// do is a txn of these writes, without guards.
func do(ws ...api.Write) api.Txn { return api.Txn{Writes: ws} }

// ask is a call of replica 3, of the number 9.
func ask(kind int) api.Call { return api.Call{From: 3, Id: 9, Kind: kind} }

// get, watch, txn: calls.
func get(key string) api.Call {
	c := ask(api.CGet)
	c.Key = key
	return c
}

func watch(rev int64) api.Call {
	c := ask(api.CWatch)
	c.Rev = rev
	return c
}

func txn(t api.Txn) api.Call {
	c := ask(api.CTxn)
	c.Txn = t
	return c
}

// some is a store of four revisions, the first of them forgotten: a, b and c are there, d went, and e came and went.
func some() *store.Store {
	s := store.New()
	s.Txn(do(set("d", "1"), set("b", "2")))
	s.Txn(do(set("a", "3"), drop("d"), set("e", "")))
	s.Txn(do(drop("e"), set("c", "")))
	s.Txn(do(set("b", "4")))
	s.Compact(1)
	return s
}

// full is all that is told of a store, but for how often it was asked.
func full(s *store.Store) string {
	var b strings.Builder
	fmt.Fprint(&b, s.Rev(), s.Base(), s.List())
	for rev := s.Base(); rev <= s.Rev(); rev++ {
		es, err := s.Watch(rev)
		fmt.Fprint(&b, es, err)
	}
	return b.String()
}

// wanted is the answer to ask's calls with these parts.
func wanted(kind int, err api.Errno, rev int64, es []api.Entry, vs []api.Event) api.Answer {
	return api.Answer{To: 3, Id: 9, Kind: kind, Err: err, Rev: rev, Entries: es, Events: vs}
}

// askOf asks that the answer of s to c is want.
func askOf(t *testing.T, s *store.Store, c api.Call, want api.Answer) {
	t.Helper()
	if a := reply.Of(s, c); told(a) != told(want) {
		t.Errorf("P9.1: Of is %s; not %s", short(a), short(want))
	}
}

func TestOfCGet(t *testing.T) {
	s := some()
	for _, e := range []api.Entry{entry("a", 2, "3"), entry("b", 4, "4"), entry("c", 3, "")} {
		askOf(t, s, get(e.Key), wanted(api.CGet, api.OK, 4, []api.Entry{e}, nil))
	}
	for _, key := range []string{"d", "e", "f", "aa", "\x00", key20} {
		askOf(t, s, get(key), wanted(api.CGet, api.ErrNone, 4, nil, nil))
	}
	askOf(t, store.New(), get("a"), wanted(api.CGet, api.ErrNone, 0, nil, nil))
	askOf(t, nil, get("a"), wanted(api.CGet, api.ErrNone, 0, nil, nil))
}

func TestOfCList(t *testing.T) {
	askOf(t, some(), ask(api.CList), wanted(api.CList, api.OK, 4, []api.Entry{entry("a", 2, "3"), entry("b", 4, "4"), entry("c", 3, "")}, nil))
	askOf(t, store.New(), ask(api.CList), wanted(api.CList, api.OK, 0, nil, nil))
	askOf(t, nil, ask(api.CList), wanted(api.CList, api.OK, 0, nil, nil))
	// All went: nothing, at a revision all the same.
	s := store.New()
	s.Txn(do(set("a", "")))
	s.Txn(do(drop("a")))
	askOf(t, s, ask(api.CList), wanted(api.CList, api.OK, 2, nil, nil))
}

func TestOfCListOfMany(t *testing.T) {
	s := store.New()
	var want []api.Entry
	for n := 1; n <= 130; n++ {
		key := fmt.Sprintf("p/%03d", n)
		s.Txn(do(set(key, key)))
		want = append(want, entry(key, int64(n), key))
		askOf(t, s, ask(api.CList), wanted(api.CList, api.OK, int64(n), want, nil))
	}
}

func TestOfCWatch(t *testing.T) {
	s := some()
	all := []api.Event{wrote(2, "a", "3"), went(2, "d"), wrote(2, "e", ""), went(3, "e"), wrote(3, "c", ""), wrote(4, "b", "4")}
	for rev, from := range map[int64]int{1: 0, 2: 3, 3: 5, 4: 6} {
		askOf(t, s, watch(rev), wanted(api.CWatch, api.OK, 4, nil, all[from:]))
	}
	askOf(t, s, watch(0), wanted(api.CWatch, api.ErrCompact, 4, nil, nil))
	for _, rev := range []int64{5, 6, mostRev} {
		askOf(t, s, watch(rev), wanted(api.CWatch, api.ErrRange, 4, nil, nil))
		askOf(t, store.New(), watch(rev), wanted(api.CWatch, api.ErrRange, 0, nil, nil))
		askOf(t, nil, watch(rev), wanted(api.CWatch, api.ErrOff, 0, nil, nil))
	}
	askOf(t, store.New(), watch(0), wanted(api.CWatch, api.OK, 0, nil, nil))
	askOf(t, nil, watch(0), wanted(api.CWatch, api.ErrOff, 0, nil, nil))
}

func TestOfCTxn(t *testing.T) {
	at := func(key string, rev int64, under bool) []api.Guard {
		return []api.Guard{{Key: key, Rev: rev, Under: under}}
	}
	// Each one is asked of the store that those ahead of it left.
	s := some()
	for k, x := range []struct {
		t   api.Txn
		err api.Errno
		rev int64
	}{
		{do(set("a", "5")), api.OK, 5}, {do(drop("a"), set("z", "")), api.OK, 6}, {do(drop("a")), api.ErrNone, 6}, {do(set("y", ""), drop("x")), api.ErrNone, 6},
		{api.Txn{Guards: at("a", 0, false), Writes: do(set("a", "6")).Writes}, api.OK, 7}, {api.Txn{Guards: at("a", 0, false), Writes: do(set("a", "7")).Writes}, api.ErrGuard, 7}, {api.Txn{Guards: at("a", 7, true), Writes: do(drop("a")).Writes}, api.OK, 8}, {api.Txn{Guards: at("a", 7, true), Writes: do(drop("a")).Writes}, api.ErrGuard, 8},
		// The store's own: a call may be so, and still it can't be done.
		{api.Txn{}, api.ErrForm, 8}, {api.Txn{Guards: at("a", 7, true)}, api.ErrForm, 8}, {do(set("a", ""), set("a", "")), api.ErrForm, 8}, {do(api.Write{Key: "b", Val: []byte("v"), Gone: true}), api.ErrForm, 8}, {do(drop("b")), api.OK, 9},
	} {
		was := full(s)
		askOf(t, s, txn(x.t), wanted(api.CTxn, x.err, x.rev, nil, nil))
		if (full(s) == was) != (x.err != api.OK) {
			t.Errorf("P9.1: txn %d tells %d, and the store is %s; it was %s", k, x.err, full(s), was)
		}
	}
	if _, ok := s.Get("b"); ok {
		t.Error("P9.1: a txn was done, and what it let go is there")
	}
	askOf(t, store.New(), txn(do(set("a", ""))), wanted(api.CTxn, api.OK, 1, nil, nil))
	askOf(t, store.New(), txn(do(drop("a"))), wanted(api.CTxn, api.ErrNone, 0, nil, nil))
	for _, x := range []api.Txn{{}, do(set("a", "")), do(drop("a"))} {
		askOf(t, nil, txn(x), wanted(api.CTxn, api.ErrOff, 0, nil, nil))
	}
}

func TestToAndId(t *testing.T) {
	for _, c := range []api.Call{get("a"), ask(api.CList), watch(3), txn(do(set("a", "")))} {
		for _, from := range []int{0, 1, 7} {
			for _, id := range []int64{1, 2, mostId - 1, mostId} {
				c.From, c.Id = from, id
				for _, s := range []*store.Store{some(), store.New(), nil, {}} {
					if a := reply.Of(s, c); a.To != from || a.Id != id || a.Kind != c.Kind || !reply.May(a) {
						t.Errorf("P9.1: Of is %s of a call of Kind %d from %d of the number %d", short(a), c.Kind, from, id)
					}
				}
			}
		}
	}
}

// wrongCalls are calls that may not be.
func wrongCalls() []api.Call {
	cs := []api.Call{{}, get(""), get(key20 + "1"), watch(-1), watch(mostRev + 1), watch(math.MinInt64), watch(math.MaxInt64), txn(do(set("", ""))), txn(do(set("f", ""), set(key20+"1", ""))), txn(do(set("f", val4000+"v"))), txn(do(make([]api.Write, 65)...)), txn(api.Txn{Guards: make([]api.Guard, 21), Writes: do(set("f", "")).Writes}), txn(api.Txn{Guards: []api.Guard{{Key: "f", Rev: -1}}, Writes: do(set("f", "")).Writes})}
	for _, c := range []api.Call{get("a"), ask(api.CList), watch(3), txn(do(set("f", "")))} {
		for _, bend := range []func(c *api.Call){
			func(c *api.Call) { c.From = -1 }, func(c *api.Call) { c.From = 8 }, func(c *api.Call) { c.From = math.MinInt }, func(c *api.Call) { c.From = math.MaxInt },
			func(c *api.Call) { c.Id = 0 }, func(c *api.Call) { c.Id = -4 }, func(c *api.Call) { c.Id = mostId + 1 }, func(c *api.Call) { c.Id = math.MinInt64 }, func(c *api.Call) { c.Id = math.MaxInt64 },
			func(c *api.Call) { c.Kind = 0 }, func(c *api.Call) { c.Kind = -1 }, func(c *api.Call) { c.Kind = 5 }, func(c *api.Call) { c.Kind = math.MinInt }, func(c *api.Call) { c.Kind = math.MaxInt },
			func(c *api.Call) { c.From, c.Id, c.Kind = 9, -4, 77 }, func(c *api.Call) { c.Key, c.Rev = "a", 2 }, func(c *api.Call) { c.Rev, c.Txn = 2, do(set("f", "")) },
		} {
			d := c
			bend(&d)
			cs = append(cs, d)
		}
	}
	return cs
}

func TestOfWhatMayNotBe(t *testing.T) {
	for _, c := range wrongCalls() {
		if call.May(c) {
			t.Fatalf("the call %v may be", c)
		}
		for k, s := range []*store.Store{some(), store.New(), nil, {}} {
			was := full(s)
			reads, writes := s.Asked()
			askOf(t, s, c, api.Answer{To: c.From, Id: c.Id, Kind: c.Kind, Err: api.ErrForm})
			if r, w := s.Asked(); r != reads || w != writes {
				t.Errorf("P9.1: store %d is asked what may not be: %v", k, c)
			}
			if full(s) != was {
				t.Errorf("P9.1: a call that may not be does something to store %d: %v", k, c)
			}
		}
	}
}

func TestOfAsksOnce(t *testing.T) {
	for _, x := range []struct {
		c             api.Call
		reads, writes int64
	}{
		{get("a"), 1, 0}, {get("z"), 1, 0}, {ask(api.CList), 1, 0}, {watch(2), 1, 0}, {watch(0), 1, 0}, {txn(do(set("a", ""))), 0, 1}, {txn(do(drop("z"))), 0, 1}, {txn(api.Txn{}), 0, 1},
	} {
		s := some()
		reads, writes := s.Asked()
		reply.Of(s, x.c)
		if r, w := s.Asked(); r-reads != x.reads || w-writes != x.writes {
			t.Errorf("P9.1: Of reads %d times and writes %d times for a call of Kind %d; not %d, %d", r-reads, w-writes, x.c.Kind, x.reads, x.writes)
		}
	}
}

func TestOfNotMadeByNew(t *testing.T) {
	// As the store says of one: nothing is there, and nothing can be asked of it.
	s := &store.Store{}
	askOf(t, s, get("a"), wanted(api.CGet, api.ErrNone, 0, nil, nil))
	askOf(t, s, ask(api.CList), wanted(api.CList, api.OK, 0, nil, nil))
	askOf(t, s, watch(0), wanted(api.CWatch, api.ErrOff, 0, nil, nil))
	askOf(t, s, txn(do(set("a", ""))), wanted(api.CTxn, api.ErrOff, 0, nil, nil))
}

func TestToldByOf(t *testing.T) {
	for _, c := range []api.Call{get("a"), get("b"), get("z"), ask(api.CList), watch(1), watch(2), watch(0)} {
		s := some()
		was := full(s)
		a, b := reply.Of(s, c), reply.Of(s, c)
		want := told(b)
		askApart(t, a)
		spoil(a)
		if told(b) != want || told(reply.Of(s, c)) != want || full(s) != was {
			t.Errorf("P0.3: who writes to what Of told changes what it told another time, or the store: %s; not %s", short(b), want)
		}
	}
}

func TestToldByOfAndStore(t *testing.T) {
	// What was told ahead of a txn is as it was behind it.
	s := some()
	list, one, past := reply.Of(s, ask(api.CList)), reply.Of(s, get("a")), reply.Of(s, watch(1))
	want := told(list) + told(one) + told(past)
	reply.Of(s, txn(do(set("a", "7"), drop("b"), set("c", "other"))))
	s.Compact(5)
	if told(list)+told(one)+told(past) != want {
		t.Errorf("P0.3: a txn changes what Of told: %s", short(list))
	}
}

// wideTxn is a txn alike x whose lists have spare room, with the Vals in one memory, each with the others in its spare room; and that memory.
func wideTxn(x api.Txn) (api.Txn, []byte) {
	room := make([]byte, 0, 100)
	gs := append(make([]api.Guard, 0, len(x.Guards)+3), x.Guards...)
	ws := append(make([]api.Write, 0, len(x.Writes)+3), x.Writes...)
	for k := range ws {
		from := len(room)
		room = append(room, ws[k].Val...)
		ws[k].Val = room[from:len(room)]
	}
	return api.Txn{Guards: gs, Writes: ws}, room[:cap(room)]
}

// toldTxn tells x, with the spare room of its lists.
func toldTxn(x api.Txn) string {
	return fmt.Sprint(x.Guards[:cap(x.Guards)], x.Writes[:cap(x.Writes)])
}

func TestHandedToOf(t *testing.T) {
	for _, x := range []api.Txn{
		do(set("a", "six"), set("f", "seven"), drop("b"), set("g", "")), {Guards: []api.Guard{{Key: "a", Rev: 2}, {Key: "d", Rev: 2, Under: true}}, Writes: do(set("a", "six"), set("f", "seven")).Writes},
		do(drop("z"), set("a", "six")), {Guards: []api.Guard{{Key: "a", Rev: 1}}, Writes: do(set("a", "six")).Writes}, {}, do(set("a", "six"), set("a", "seven")), do(set("", "six"), set("a", "seven")),
	} {
		s := some()
		in, room := wideTxn(x)
		was, wasRoom := toldTxn(in), bytes.Clone(room)
		a := reply.Of(s, txn(in))
		if toldTxn(in) != was || !bytes.Equal(room, wasRoom) {
			t.Errorf("P0.3: Of writes to what it was given: %s", toldTxn(in))
		}
		want, wantFull := told(a), full(s)
		for k := range in.Guards[:cap(in.Guards)] {
			in.Guards[:cap(in.Guards)][k] = api.Guard{Key: "other", Rev: 77}
		}
		flip(room)
		for k := range in.Writes[:cap(in.Writes)] {
			in.Writes[:cap(in.Writes)][k] = set("other", "other")
		}
		if told(a) != want || full(s) != wantFull {
			t.Errorf("P0.3: who writes to what Of was given changes the store: %s; not %s", full(s), wantFull)
		}
	}
}

// byHand is the answer of s to c, asked of the store word by word.
func byHand(s *store.Store, c api.Call) api.Answer {
	a := api.Answer{To: c.From, Id: c.Id, Kind: c.Kind}
	if !call.May(c) {
		a.Err = api.ErrForm
		return a
	}
	if c.Kind == api.CGet {
		a.Err = api.ErrNone
		if e, ok := s.Get(c.Key); ok {
			a.Err, a.Entries = api.OK, []api.Entry{e}
		}
	}
	if c.Kind == api.CList {
		a.Entries = s.List()
	}
	if c.Kind == api.CWatch {
		a.Events, a.Err = s.Watch(c.Rev)
	}
	if c.Kind == api.CTxn {
		_, a.Err = s.Txn(c.Txn)
	}
	a.Rev = s.Rev()
	return a
}

// anyCall is a call to a store of few keys; it may not be, now and then.
func (c *coin) anyCall(last int64) api.Call {
	x := api.Call{From: c.of(8), Id: int64(1 + c.of(100)), Kind: 1 + c.of(4)}
	key := func() string { return "abcdef"[c.of(6):][:1] }
	switch x.Kind {
	case api.CGet:
		x.Key = key()
	case api.CWatch:
		x.Rev = max(0, last-70+int64(c.of(75)))
	case api.CTxn:
		for range c.of(2) {
			x.Txn.Guards = append(x.Txn.Guards, api.Guard{Key: key(), Rev: max(0, last-int64(c.of(9))), Under: c.of(3) > 0})
		}
		for range 1 + c.of(3) {
			x.Txn.Writes = append(x.Txn.Writes, api.Write{Key: key(), Gone: c.of(3) == 0})
		}
		if w := &x.Txn.Writes[0]; !w.Gone {
			w.Val = []byte(c.text(9))
		}
	}
	if c.of(20) == 0 {
		x.Rev = -1
	}
	return x
}

func TestOfAnyCalls(t *testing.T) {
	c := coin(5)
	for range 20 {
		s, plain := store.New(), store.New()
		errs := map[api.Errno]bool{}
		for range 500 {
			x := c.anyCall(s.Rev())
			want := byHand(plain, x)
			a := reply.Of(s, x)
			if told(a) != told(want) {
				t.Fatalf("P9.1: Of is %s of %v; not %s", short(a), x, short(want))
			}
			errs[a.Err] = true
			// The answer goes there and back.
			askBack(t, a)
			if c.of(50) == 0 {
				s.Compact(s.Rev() - 3)
				plain.Compact(plain.Rev() - 3)
			}
		}
		if full(s) != full(plain) {
			t.Errorf("P9.1: the store is %s; not %s", full(s), full(plain))
		}
		if len(errs) < 6 {
			t.Errorf("P9.1: only these errors were told: %v", errs)
		}
	}
}
