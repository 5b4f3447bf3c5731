package store_test

import (
	"bytes"
	"fmt"
	"runtime"
	"slices"
	"strings"
	"testing"

	"interrex/api"
	"interrex/store"
)

// wide is a txn whose lists have spare room, with the Vals in one memory, each with the others in its spare room; and that memory.
func wide(gs []api.Guard, ws ...api.Write) (api.Txn, []byte) {
	room := bytes.Repeat([]byte{7}, 8)
	for _, w := range ws {
		room = append(room, w.Val...)
		room = append(room, 7, 7)
	}
	tx := api.Txn{Guards: append(make([]api.Guard, 0, len(gs)+3), gs...), Writes: make([]api.Write, 0, len(ws)+3)}
	from := 8
	for _, w := range ws {
		to := from + len(w.Val)
		w.Val = room[from:to]
		tx.Writes = append(tx.Writes, w)
		from = to + 2
	}
	return tx, room
}

// told tells a txn, with the spare room of its lists.
func told(tx api.Txn) string {
	return fmt.Sprint(tx.Guards[:cap(tx.Guards)], tx.Writes[:cap(tx.Writes)])
}

// spoil writes to all of tx, with the spare room.
func spoil(tx api.Txn) {
	gs, ws := tx.Guards[:cap(tx.Guards)], tx.Writes[:cap(tx.Writes)]
	for k := range gs {
		gs[k] = at("other", 77)
	}
	for k := range ws {
		flip(ws[k].Val)
		ws[k] = put("other", "other")
	}
}

// flip writes to each byte of b, with its spare room.
func flip(b []byte) {
	b = b[:cap(b)]
	for k := range b {
		b[k] ^= 99
	}
}

func TestHandedIn(t *testing.T) {
	x := both()
	for k, ws := range [][]api.Write{{put("a", "one"), put("b", "two")}, {put("c", ""), put("a", "three"), gone("b")}, {put("b", "four")}, {gone("none"), put("a", "five")}, {put("a", "six"), put("a", "seven")}, {gone("a"), put("b", "eight"), put("z", val4000)}} {
		for _, gs := range [][]api.Guard{nil, {at("none", 0), under("none", 0)}, {at("none", 1)}} {
			what := fmt.Sprint("handed in, ", k, ", with ", len(gs), " guards")
			tx, room := wide(gs, ws...)
			was, wasRoom := told(tx), bytes.Clone(room)
			rev, e := x.s.Txn(tx)
			copied, _ := wide(gs, ws...)
			if wantRev, wantE := x.p.txn(copied); rev != wantRev || e != wantE {
				t.Fatalf("P7.1: %s: Txn: %d, %d", what, rev, e)
			}
			if told(tx) != was || !bytes.Equal(room, wasRoom) {
				t.Errorf("P0.3: %s: Txn writes to what it was given", what)
			}
			spoil(tx)
			x.ask(t, what+", written to behind the call")
			flip(room)
			x.ask(t, what+", the Vals written to behind the call")
			room = slices.Grow(room, 9)
			clear(room[:cap(room)])
			x.ask(t, what+", the spare room written to behind the call")
		}
	}
}

func TestTold(t *testing.T) {
	x := begun(t)
	for _, key := range []string{"a", "p/a", "p/b", "z"} {
		e, _ := x.s.Get(key)
		f, _ := x.s.Get(key)
		x.p.reads += 2
		was := string(f.Val)
		flip(e.Val)
		if string(f.Val) != was {
			t.Errorf("P0.3: who writes to what Get(%q) told changes what it told another time", key)
		}
		x.ask(t, "what Get told, written to")
	}
	es, fs := x.list(), x.list()
	was := entries(fs)
	es = es[:cap(es)]
	for k := range es {
		flip(es[k].Val)
		es[k] = api.Entry{Key: "other", Rev: -5, Val: []byte("other")}
	}
	if entries(fs) != was {
		t.Error("P0.3: who writes to what List told changes what it told another time")
	}
	x.ask(t, "what List told, written to")
	for rev := range x.s.Rev() + 1 {
		es, _ := x.s.Watch(rev)
		fs, _ := x.s.Watch(rev)
		x.p.reads += 2
		was := events(fs)
		es = es[:cap(es)]
		for k := range es {
			flip(es[k].Val)
			es[k] = api.Event{Key: "other", Rev: -5, Val: []byte("other"), Gone: true}
		}
		if events(fs) != was {
			t.Errorf("P0.3: who writes to what Watch(%d) told changes what it told another time", rev)
		}
		x.ask(t, "what Watch told, written to")
	}
}

func TestToldStays(t *testing.T) {
	// What was told stays as it was, whatever comes behind.
	x := begun(t)
	e, _ := x.s.Get("a")
	l := x.s.List()
	es, _ := x.s.Watch(0)
	all := func() string {
		return fmt.Sprint(e.Val[:cap(e.Val)], entries(l[:cap(l)]), events(es[:cap(es)]))
	}
	was := all()
	x.s.Txn(txn(put("a", "x"), put("p/a", "y"), gone("p/b"), put("aa", "new")))
	x.s.Txn(txn(gone("a"), put("z", val4000)))
	x.s.Compact(5)
	for range 70 {
		x.s.Txn(txn(put("a", "w"), put("z", "z")))
	}
	x.s.Compact(1 << 40)
	if all() != was {
		t.Errorf("P0.3: %s; not %s", all(), was)
	}
}

func TestValsOfOneAnswer(t *testing.T) {
	// One Val for all of them, and still each has its own.
	val := []byte{1, 2, 3, 4, 5}
	s := store.New()
	s.Txn(txn(api.Write{Key: "a", Val: val}, api.Write{Key: "b", Val: val}, api.Write{Key: "c", Val: val[1:3]}, api.Write{Key: "d", Val: val[:0]}, api.Write{Key: "e", Val: val[2:]}))
	l := s.List()
	es, _ := s.Watch(0)
	var vals [][]byte
	for k := range l {
		vals = append(vals, l[k].Val[:cap(l[k].Val)], es[k].Val[:cap(es[k].Val)])
	}
	for k, v := range vals {
		for j := range v {
			v[j] = byte(100 + k)
		}
	}
	for k, v := range vals {
		for _, c := range v {
			if c != byte(100+k) {
				t.Fatalf("P0.3: the Vals of what is told share: %v", vals)
			}
		}
	}
	if !bytes.Equal(val, []byte{1, 2, 3, 4, 5}) {
		t.Errorf("P0.3: who writes to what is told changes what was handed in: %v", val)
	}
	if e, _ := s.Get("e"); string(e.Val) != "\x03\x04\x05" {
		t.Errorf("P0.3: who writes to what is told changes what is there: %v", e.Val)
	}
}

func TestToldIsHandedIn(t *testing.T) {
	// What one store told is handed to another, and to the first one itself.
	a, b := begun(t), both()
	e, _ := a.s.Get("p/a")
	a.p.reads++
	again := e.Val[:cap(e.Val)]
	for _, x := range []pair{a, b} {
		x.take(t, "what was told", txn(api.Write{Key: "p/a", Val: e.Val}, api.Write{Key: "copy", Val: e.Val}))
	}
	flip(again)
	a.ask(t, "what was told, written to")
	b.ask(t, "what another told, written to")
}

// held is how much memory is held.
func held() uint64 {
	runtime.GC()
	var m runtime.MemStats
	runtime.ReadMemStats(&m)
	return m.HeapAlloc
}

func TestNoMoreIsKept(t *testing.T) {
	const great, some = 5000, 8 << 20
	s := store.New()
	before := held()
	for k := range great {
		// A key is a piece of a long text, a Val has much spare room.
		text := fmt.Sprint("k", k, strings.Repeat(" ", 1<<12))
		if _, e := s.Txn(txn(api.Write{Key: text[:8], Val: make([]byte, 10, 1<<12)})); e != api.OK {
			t.Fatalf("P7.1: Txn: %d", e)
		}
	}
	if now := held(); now > before+some {
		t.Errorf("P7.1: with %d small ones %d bytes more are held", great, now-before)
	}
	for k := range great {
		s.Txn(txn(put(fmt.Sprint(k), val4000)))
	}
	if now := held(); now < before+2*some {
		t.Errorf("P7.1: with %d great ones %d bytes more are held", great, now-before)
	}
	for k := range great {
		s.Txn(txn(gone(fmt.Sprint(k))))
	}
	if now := held(); now > before+some {
		t.Errorf("P7.1: of great ones that went %d bytes more are held", now-before)
	}
	if es := s.List(); len(es) != great {
		t.Errorf("P7.1: %d are there", len(es))
	}
}
