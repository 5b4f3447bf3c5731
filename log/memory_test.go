package log_test

import (
	"bytes"
	"fmt"
	"runtime"
	"testing"

	"interrex/api"
	"interrex/log"
)

// wide gives events of these Revs, in a list with spare room, whose Vals lie in one memory, each with the others in its spare room; and that memory.
func wide(revs ...int64) ([]api.Event, []byte) {
	room := bytes.Repeat([]byte{7}, 4*len(revs)+8)
	es := make([]api.Event, len(revs), len(revs)+3)
	for k, rev := range revs {
		es[k] = api.Event{Rev: rev, Key: fmt.Sprint("k", k), Val: room[4*k : 4*k+2+k%3]}
	}
	return es, room
}

// spoil writes to all of es, to their spare room, and to all Vals with their spare room.
func spoil(es []api.Event) {
	es = es[:cap(es)]
	for k := range es {
		val := es[k].Val[:cap(es[k].Val)]
		for j := range val {
			val[j] ^= 99
		}
		es[k] = api.Event{Rev: -5, Key: "other", Val: []byte("other"), Gone: true}
	}
}

func TestHandedIn(t *testing.T) {
	for _, most := range []int{2, 3, 50} {
		l, want := full(t, most)
		for _, list := range [][]int64{{1, 2, 2}, {4}, {3}, {5, 5, 6, 7}, {9, 8}, {9, 9, 9, 9}, {10}} {
			es, room := wide(list...)
			was, wasRoom := text(es[:cap(es)]), bytes.Clone(room)
			if l.Add(es...) {
				copied, _ := wide(list...)
				want.add(copied)
			}
			if text(es[:cap(es)]) != was || !bytes.Equal(room, wasRoom) {
				t.Errorf("P0.3: Add of %v writes to what it was given", list)
			}
			spoil(es)
			ask(t, fmt.Sprint("New ", most, ": with ", list, " that was written to"), l, want)
			clear(room)
			ask(t, fmt.Sprint("New ", most, ": with ", list, " whose Vals were written to"), l, want)
		}
	}
}

func TestTold(t *testing.T) {
	for _, most := range []int{4, 50} {
		l, want := full(t, most)
		for _, list := range [][]int64{{1, 2, 2}, {4, 5}, {6}, {7, 8, 9}} {
			copied, _ := wide(list...)
			l.Add(copied...)
			copied, _ = wide(list...)
			want.add(copied)
			for rev := l.Base(); rev <= l.Last(); rev++ {
				es, _ := l.From(rev)
				other, _ := l.From(rev)
				all, _ := l.From(l.Base())
				wasOther, wasAll := text(other), text(all)
				spoil(es)
				if text(other) != wasOther || text(all) != wasAll {
					t.Errorf("P0.3: who writes to what From(%d) told changes what it told another time", rev)
				}
				ask(t, fmt.Sprint("what From ", rev, " told was written to"), l, want)
				// What comes behind isn't written to what was told.
				es = other[:cap(other)]
				wasOther = text(es)
				l.From(rev)
				if text(es) != wasOther {
					t.Errorf("P0.3: From(%d) writes to what it told before", rev)
				}
			}
		}
		es, _ := l.From(l.Base())
		was := text(es[:cap(es)])
		l.Add(at(20, 21)...)
		l.Cut(20)
		l.Add(at(22, 22, 22, 22, 22, 22)...)
		if text(es[:cap(es)]) != was {
			t.Error("P0.3: Add and Cut write to what From told")
		}
	}
}

func TestValsOfOneAnswer(t *testing.T) {
	// One Val for all of them, and still each has its own.
	val := []byte{1, 2, 3, 4, 5}
	l := log.New(10)
	l.Add(api.Event{Rev: 1, Val: val}, api.Event{Rev: 1, Val: val}, api.Event{Rev: 2, Val: val[1:3]}, api.Event{Rev: 3, Val: val[:0]}, api.Event{Rev: 3, Val: val[2:]})
	es, _ := l.From(0)
	for k, e := range es {
		room := e.Val[:cap(e.Val)]
		for j := range room {
			room[j] = byte(100 + k)
		}
	}
	for k, e := range es {
		for _, c := range e.Val[:cap(e.Val)] {
			if c != byte(100+k) {
				t.Errorf("P0.3: the Vals of one answer share: %v", e.Val[:cap(e.Val)])
			}
		}
	}
	if !bytes.Equal(val, []byte{1, 2, 3, 4, 5}) {
		t.Errorf("P0.3: who writes to what From told changes what Add was given: %v", val)
	}
}

func TestToldIsAdded(t *testing.T) {
	// What one log told is handed to another, and to the first one itself.
	l, want := full(t, 6, []int64{1, 2, 2})
	es, _ := l.From(0)
	m := log.New(6)
	m.Add(es...)
	for k := range es {
		es[k].Rev += 10
	}
	if !l.Add(es...) {
		t.Fatal("P6.1: Add: false")
	}
	more := at(1, 2, 2)
	for k := range more {
		more[k].Rev += 10
	}
	want.add(more)
	spoil(es)
	ask(t, "what was told was added", l, want)
	ask(t, "what another told was added", m, &plain{most: 6, es: at(1, 2, 2), last: 2})
}

// held is how much memory is held.
func held() uint64 {
	runtime.GC()
	var m runtime.MemStats
	runtime.ReadMemStats(&m)
	return m.HeapAlloc
}

func TestWhatGoesIsNotKept(t *testing.T) {
	const great, some = 1 << 20, 16 << 20
	val := make([]byte, great)
	before := held()
	l := log.New(2)
	for k := range 100 {
		l.Add(api.Event{Rev: int64(k + 1), Val: val})
	}
	if now := held(); now > before+some {
		t.Errorf("P6.1: what went one by one is kept: %d bytes more", now-before)
	}
	var es []api.Event
	for k := range 100 {
		es = append(es, api.Event{Rev: int64(k + 101), Val: val})
	}
	l.Add(es...)
	if now := held(); now > before+some {
		t.Errorf("P6.1: what went at once is kept: %d bytes more", now-before)
	}
	// All of one Rev: none of them stays.
	for k := range es {
		es[k].Rev = 201
	}
	l.Add(es...)
	if now := held(); now > before+some {
		t.Errorf("P6.1: what went at once, of one Rev, is kept: %d bytes more", now-before)
	}
	for k := range es {
		es[k].Rev = int64(k + 101)
	}
	all := log.New(100)
	all.Add(es...)
	all.Cut(199)
	if now := held(); now > before+some {
		t.Errorf("P6.1: what was cut is kept: %d bytes more", now-before)
	}
	if told, _ := all.From(199); len(told) != 1 || l.Last() != 201 {
		t.Errorf("P6.1: %d are told", len(told))
	}
}
