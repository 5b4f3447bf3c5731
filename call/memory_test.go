package call_test

import (
	"bytes"
	"fmt"
	"testing"

	"interrex/api"
	"interrex/call"
)

// wide is a call alike c whose lists have spare room, with the Vals in one memory, each with the others in its spare room; and that memory.
func wide(c api.Call) (api.Call, []byte) {
	room := bytes.Repeat([]byte{7}, 8)
	for _, w := range c.Txn.Writes {
		room = append(room, w.Val...)
		room = append(room, 7, 7)
	}
	gs := append(make([]api.Guard, 0, len(c.Txn.Guards)+3), c.Txn.Guards...)
	ws := make([]api.Write, 0, len(c.Txn.Writes)+3)
	from := 8
	for _, w := range c.Txn.Writes {
		to := from + len(w.Val)
		w.Val = room[from:to]
		ws = append(ws, w)
		from = to + 2
	}
	c.Txn = api.Txn{Guards: gs, Writes: ws}
	return c, room
}

// toldWide tells c, with the spare room of its lists.
func toldWide(c api.Call) string {
	return fmt.Sprint(told(c), c.Txn.Guards[:cap(c.Txn.Guards)], c.Txn.Writes[:cap(c.Txn.Writes)])
}

// spoil writes to all lists of c, with the spare room.
func spoil(c api.Call) {
	gs, ws := c.Txn.Guards[:cap(c.Txn.Guards)], c.Txn.Writes[:cap(c.Txn.Writes)]
	for k := range gs {
		gs[k] = at("other", 77)
	}
	for k := range ws {
		flip(ws[k].Val)
		ws[k] = put("other", "other")
	}
}

// flip writes to each byte of b, with its spare room.
func flip(b []byte) {
	b = b[:cap(b)]
	for k := range b {
		b[k] ^= 99
	}
}

// wrongCalls are calls that may not be.
func wrongCalls() []api.Call {
	return []api.Call{{}, mostParts(), get(key20 + "1"), watch(-1), txn(guards(21), writes(3)...), txn(guards(3), writes(65)...), txn(guards(3), put("a", val4000), put("b", val4000+"v"))}
}

func TestHandedToPut(t *testing.T) {
	for _, c := range append(manyCalls(), wrongCalls()...) {
		want := call.Put(c)
		in, room := wide(c)
		was, wasRoom := toldWide(in), bytes.Clone(room)
		b := call.Put(in)
		call.May(in)
		if !call.Eq(in, c) || !call.Eq(c, in) {
			t.Errorf("P8.1: Eq of the same in other memory is false: %s", short(c))
		}
		if toldWide(in) != was || !bytes.Equal(room, wasRoom) {
			t.Errorf("P0.3: what was handed in is written to: %s", short(c))
		}
		spoil(in)
		flip(room)
		if !bytes.Equal(b, want) {
			t.Errorf("P0.3: who writes to what Put was given changes the bytes of %s", short(c))
		}
	}
}

func TestToldByPut(t *testing.T) {
	for _, c := range manyCalls() {
		was := told(c)
		a, b := call.Put(c), call.Put(c)
		want := bytes.Clone(b)
		flip(a)
		if !bytes.Equal(b, want) || !bytes.Equal(call.Put(c), want) || told(c) != was {
			t.Errorf("P0.3: who writes to what Put told changes what it told another time, or what it was given: %s", short(c))
		}
	}
}

func TestHandedToGet(t *testing.T) {
	for _, c := range manyCalls() {
		b := call.Put(c)
		room := append(append(bytes.Repeat([]byte{5}, 9), b...), bytes.Repeat([]byte{5}, 99)...)
		was := bytes.Clone(room)
		in := room[9 : 9+len(b)]
		d, ok := call.Get(in)
		if !ok || !bytes.Equal(room, was) {
			t.Errorf("P0.3: Get writes to what it was given: %v, %s", ok, short(c))
		}
		flip(room)
		if told(d) != told(c) {
			t.Errorf("P0.3: who writes to the bytes changes what Get told: %s; not %s", short(d), short(c))
		}
		// Not taken, and yet not written to.
		for _, n := range []int{0, len(b) / 2, len(b) - 1} {
			copy(room, was)
			call.Get(in[:n])
			if !bytes.Equal(room, was) {
				t.Errorf("P0.3: Get writes to %d bytes that it was given: %s", n, short(c))
			}
		}
	}
}

func TestToldByGet(t *testing.T) {
	for _, c := range manyCalls() {
		b := call.Put(c)
		was := bytes.Clone(b)
		d, _ := call.Get(b)
		e, _ := call.Get(b)
		spoil(d)
		if told(e) != told(c) || !bytes.Equal(b, was) {
			t.Errorf("P0.3: who writes to what Get told changes what it told another time, or the bytes: %s", short(c))
		}
	}
}

func TestValsOfOneAnswer(t *testing.T) {
	// One Val for all of them, and still each that is told has its own.
	val := []byte{1, 2, 3, 4, 5}
	b := call.Put(txn(nil, api.Write{Key: "a", Val: val}, api.Write{Key: "b", Val: val}, api.Write{Key: "c", Val: val[1:3]}, api.Write{Key: "d", Val: val[:0]}, api.Write{Key: "e", Val: val[2:]}))
	was := bytes.Clone(b)
	c, _ := call.Get(b)
	var vals [][]byte
	for _, w := range c.Txn.Writes {
		vals = append(vals, w.Val[:cap(w.Val)])
	}
	for k, v := range vals {
		for j := range v {
			v[j] = byte(100 + k)
		}
	}
	for k, v := range vals {
		for _, x := range v {
			if x != byte(100+k) {
				t.Fatalf("P0.3: the Vals of what is told share: %v", vals)
			}
		}
	}
	if len(vals) != 5 || !bytes.Equal(val, []byte{1, 2, 3, 4, 5}) || !bytes.Equal(b, was) {
		t.Errorf("P0.3: who writes to what is told changes what was handed in: %v", val)
	}
}

func TestToldIsHandedIn(t *testing.T) {
	// What one call told is handed to another.
	for _, c := range manyCalls() {
		b := call.Put(c)
		d, _ := call.Get(b)
		again := call.Put(d)
		want := bytes.Clone(again)
		if !bytes.Equal(again, b) {
			t.Errorf("P8.1: Put makes other bytes of what Get made of %s", short(c))
		}
		spoil(d)
		flip(b)
		if !bytes.Equal(again, want) {
			t.Errorf("P0.3: who writes to what Get told changes what Put made of it: %s", short(c))
		}
	}
}
