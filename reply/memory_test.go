package reply_test

import (
	"bytes"
	"fmt"
	"testing"

	"interrex/api"
	"interrex/reply"
)

// wide is an answer alike a whose lists have spare room, with the Vals in one memory, each with the others in its spare room; and that memory.
func wide(a api.Answer) (api.Answer, []byte) {
	room := bytes.Repeat([]byte{7}, 8)
	es := append(make([]api.Entry, 0, len(a.Entries)+3), a.Entries...)
	vs := append(make([]api.Event, 0, len(a.Events)+3), a.Events...)
	for _, e := range es {
		room = append(append(room, e.Val...), 7, 7)
	}
	for _, e := range vs {
		room = append(append(room, e.Val...), 7, 7)
	}
	from := 8
	place := func(val []byte) []byte {
		piece := room[from : from+len(val)]
		from += len(val) + 2
		return piece
	}
	for k := range es {
		es[k].Val = place(es[k].Val)
	}
	for k := range vs {
		vs[k].Val = place(vs[k].Val)
	}
	a.Entries, a.Events = es, vs
	return a, room
}

// toldWide tells a, with the spare room of its lists.
func toldWide(a api.Answer) string {
	a.Entries, a.Events = a.Entries[:cap(a.Entries)], a.Events[:cap(a.Events)]
	return told(a)
}

// spoil writes to all lists of a, with the spare room.
func spoil(a api.Answer) {
	es, vs := a.Entries[:cap(a.Entries)], a.Events[:cap(a.Events)]
	for k := range es {
		flip(es[k].Val)
		es[k] = entry("other", 77, "other")
	}
	for k := range vs {
		flip(vs[k].Val)
		vs[k] = wrote(77, "other", "other")
	}
}

// flip writes to each byte of b, with its spare room.
func flip(b []byte) {
	b = b[:cap(b)]
	for k := range b {
		b[k] ^= 99
	}
}

// wrongAnswers are answers that may not be.
func wrongAnswers() []api.Answer {
	return []api.Answer{{}, mostParts(), with(entries(101), events(3)...), with(entries(3), events(101)...), with([]api.Entry{entry("a", 1, val4000), entry("b", 1, val4000+"v")}), with(entries(3), api.Event{Rev: 1, Key: "a", Val: []byte("v"), Gone: true})}
}

func TestHandedToPut(t *testing.T) {
	for _, a := range append(manyAnswers(), wrongAnswers()...) {
		want := reply.Put(a)
		in, room := wide(a)
		was, wasRoom := toldWide(in), bytes.Clone(room)
		b := reply.Put(in)
		reply.May(in)
		if !reply.Eq(in, a) || !reply.Eq(a, in) {
			t.Errorf("P9.1: Eq of the same in other memory is false: %s", short(a))
		}
		if toldWide(in) != was || !bytes.Equal(room, wasRoom) {
			t.Errorf("P0.3: what was handed in is written to: %s", short(a))
		}
		spoil(in)
		flip(room)
		if !bytes.Equal(b, want) {
			t.Errorf("P0.3: who writes to what Put was given changes the bytes of %s", short(a))
		}
	}
}

func TestToldByPut(t *testing.T) {
	for _, a := range manyAnswers() {
		was := told(a)
		b, c := reply.Put(a), reply.Put(a)
		want := bytes.Clone(c)
		flip(b)
		if !bytes.Equal(c, want) || !bytes.Equal(reply.Put(a), want) || told(a) != was {
			t.Errorf("P0.3: who writes to what Put told changes what it told another time, or what it was given: %s", short(a))
		}
	}
}

func TestHandedToGet(t *testing.T) {
	for _, a := range manyAnswers() {
		b := reply.Put(a)
		room := append(append(bytes.Repeat([]byte{5}, 9), b...), bytes.Repeat([]byte{5}, 99)...)
		was := bytes.Clone(room)
		in := room[9 : 9+len(b)]
		d, ok := reply.Get(in)
		if !ok || !bytes.Equal(room, was) {
			t.Errorf("P0.3: Get writes to what it was given: %v, %s", ok, short(a))
		}
		flip(room)
		if told(d) != told(a) {
			t.Errorf("P0.3: who writes to the bytes changes what Get told: %s; not %s", short(d), short(a))
		}
		// Not taken, and yet not written to.
		for _, n := range []int{0, len(b) / 2, len(b) - 1} {
			copy(room, was)
			reply.Get(in[:n])
			if !bytes.Equal(room, was) {
				t.Errorf("P0.3: Get writes to %d bytes that it was given: %s", n, short(a))
			}
		}
	}
}

func TestToldByGet(t *testing.T) {
	for _, a := range manyAnswers() {
		b := reply.Put(a)
		was := bytes.Clone(b)
		d, _ := reply.Get(b)
		e, _ := reply.Get(b)
		spoil(d)
		if told(e) != told(a) || !bytes.Equal(b, was) {
			t.Errorf("P0.3: who writes to what Get told changes what it told another time, or the bytes: %s", short(a))
		}
	}
}

// valsOf are all Vals of a, with their spare room.
func valsOf(a api.Answer) [][]byte {
	var vals [][]byte
	for _, e := range a.Entries {
		vals = append(vals, e.Val[:cap(e.Val)])
	}
	for _, e := range a.Events {
		vals = append(vals, e.Val[:cap(e.Val)])
	}
	return vals
}

// askApart asks that no two of a's Vals share memory.
func askApart(t *testing.T, a api.Answer) {
	t.Helper()
	vals := valsOf(a)
	for k, v := range vals {
		for j := range v {
			v[j] = byte(k)
		}
	}
	for k, v := range vals {
		for _, x := range v {
			if x != byte(k) {
				t.Fatalf("P0.3: the Vals of what is told share: %v", fmt.Sprintf("%.300v", vals))
			}
		}
	}
}

func TestValsOfOneAnswer(t *testing.T) {
	// One Val for all of them, and still each that is told has its own.
	val := []byte{1, 2, 3, 4, 5}
	es := []api.Entry{{Key: "a", Rev: 1, Val: val}, {Key: "b", Rev: 1, Val: val}, {Key: "c", Rev: 1, Val: val[1:3]}, {Key: "d", Rev: 1, Val: val[:0]}, {Key: "e", Rev: 1, Val: val[2:]}}
	vs := []api.Event{{Rev: 1, Key: "a", Val: val}, {Rev: 1, Key: "b", Val: val[3:]}, {Rev: 1, Key: "c", Gone: true}, {Rev: 1, Key: "d", Gone: true, Val: val[:0]}}
	b := reply.Put(with(es, vs...))
	was := bytes.Clone(b)
	a, _ := reply.Get(b)
	askApart(t, a)
	if len(valsOf(a)) != 9 || !bytes.Equal(val, []byte{1, 2, 3, 4, 5}) || !bytes.Equal(b, was) {
		t.Errorf("P0.3: who writes to what is told changes what was handed in: %v", val)
	}
}

func TestToldIsHandedIn(t *testing.T) {
	// What one call told is handed to another.
	for _, a := range manyAnswers() {
		b := reply.Put(a)
		d, _ := reply.Get(b)
		again := reply.Put(d)
		want := bytes.Clone(again)
		if !bytes.Equal(again, b) {
			t.Errorf("P9.1: Put makes other bytes of what Get made of %s", short(a))
		}
		spoil(d)
		flip(b)
		if !bytes.Equal(again, want) {
			t.Errorf("P0.3: who writes to what Get told changes what Put made of it: %s", short(a))
		}
	}
}
