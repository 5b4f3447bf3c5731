package call_test

import (
	"bytes"
	"fmt"
	"math"
	"slices"
	"strings"
	"testing"

	"interrex/api"
	"interrex/call"
)

// The greatest numbers and texts that a call may have.
const (
	mostRev = 1 << 40
	key20   = "p/abcdefghijklmnop20"
)

// val4000 is the longest Val.
var val4000 = strings.Repeat("v", api.MaxVal)

// put, gone: writes.
func put(key, val string) api.Write { return api.Write{Key: key, Val: []byte(val)} }

func gone(key string) api.Write { return api.Write{Key: key, Gone: true} }

// at, under: guards.
func at(key string, rev int64) api.Guard { return api.Guard{Key: key, Rev: rev} }

func under(key string, rev int64) api.Guard { return api.Guard{Key: key, Rev: rev, Under: true} }

// get is a call of CGet.
func get(key string) api.Call { return api.Call{From: 1, Id: 5, Kind: api.CGet, Key: key} }

// watch is a call of CWatch.
func watch(rev int64) api.Call { return api.Call{From: 1, Id: 5, Kind: api.CWatch, Rev: rev} }

// list is a call of CList.
func list() api.Call { return api.Call{From: 1, Id: 5, Kind: api.CList} }

// txn is a call of CTxn.
func txn(gs []api.Guard, ws ...api.Write) api.Call {
	return api.Call{From: 1, Id: 5, Kind: api.CTxn, Txn: api.Txn{Guards: gs, Writes: ws}}
}

// with is c from another replica, with another Id.
func with(from int, id int64, c api.Call) api.Call {
	c.From, c.Id = from, id
	return c
}

// guards are that many, no two alike.
func guards(n int) []api.Guard {
	var gs []api.Guard
	for k := range n {
		gs = append(gs, api.Guard{Key: fmt.Sprint("n/", k), Rev: int64(k) << 35, Under: k%3 == 0})
	}
	return gs
}

// writes are that many, no two alike.
func writes(n int) []api.Write {
	var ws []api.Write
	for k := range n {
		ws = append(ws, api.Write{Key: fmt.Sprint("p/", k), Val: bytes.Repeat([]byte{byte(k)}, k), Gone: k%3 == 1})
	}
	return ws
}

// greatest is the greatest call that may be.
func greatest() api.Call {
	var gs []api.Guard
	for k := range api.MaxGuards {
		gs = append(gs, under(fmt.Sprintf("%020d", k), mostRev))
	}
	var ws []api.Write
	for k := range api.MaxWrites {
		ws = append(ws, api.Write{Key: fmt.Sprintf("%020d", k), Val: []byte(val4000), Gone: true})
	}
	return with(7, 1<<40, txn(gs, ws...))
}

// manyCalls are calls that may be, no two alike.
func manyCalls() []api.Call {
	cs := []api.Call{
		list(), with(0, 1, list()), with(7, 1<<40, list()), with(3, 1<<40-1, list()),
		get("p"), get("p/a"), get(key20), get(key20[:19]), get("\x00"), get("\x00\x00"), get("\xff\xfe"), get(" "), get("é/世界"), get("P/A"), with(0, 1, get("l")), with(7, 1<<40, get(key20)),
		watch(0), watch(1), watch(255), watch(256), watch(mostRev - 1), watch(mostRev), with(0, 1, watch(0)), with(7, 1<<40, watch(mostRev)),
		txn(nil), with(0, 1, txn(nil)), with(7, 1<<40, txn(nil)),
		txn([]api.Guard{at("l", 0)}), txn([]api.Guard{under("l", 0)}), txn([]api.Guard{at("l", mostRev)}), txn([]api.Guard{at("l", 0), at("l", 0)}), txn([]api.Guard{at(key20, 3), under("\x00", 4)}), txn([]api.Guard{under("\x00", 4), at(key20, 3)}), txn(guards(19)), txn(guards(20)),
		txn(nil, put("l", "")), txn(nil, gone("l")), txn(nil, put("l", "\x00")), txn(nil, put("l", "v")), txn(nil, api.Write{Key: "l", Val: []byte("v"), Gone: true}), txn(nil, put(key20, val4000)), txn(nil, put(key20, val4000[1:])),
		txn(nil, put("l", "x"), put("l", "x")), txn(nil, put("a", "x"), gone("b"), put("c", "")), txn(nil, gone("b"), put("a", "x"), put("c", "")), txn(nil, put("\xff", "\x00\xff"), gone("\x00")), txn(nil, writes(63)...), txn(nil, writes(64)...),
		txn([]api.Guard{at("p/a", 4), under("p/", 9)}, put("p/a", "bound"), gone("p/b")), txn([]api.Guard{under("p/", 9), at("p/a", 4)}, put("p/a", "bound"), gone("p/b")),
		txn(guards(20), writes(1)...), txn(guards(1), writes(64)...), txn(guards(20), writes(64)...), greatest(),
	}
	// What follows from how many there are of each.
	for n := range 6 {
		cs = append(cs, with(2, 1, txn(guards(n), writes(5-n)...)))
	}
	return cs
}

// told tells all parts of c; an empty list as none.
func told(c api.Call) string {
	var b strings.Builder
	fmt.Fprintf(&b, "From %d, Id %d, Kind %d, Key %q, Rev %d", c.From, c.Id, c.Kind, c.Key, c.Rev)
	for _, g := range c.Txn.Guards {
		fmt.Fprintf(&b, ", guard %q at %d, Under %v", g.Key, g.Rev, g.Under)
	}
	for _, w := range c.Txn.Writes {
		fmt.Fprintf(&b, ", write %q, %q, Gone %v", w.Key, w.Val, w.Gone)
	}
	return b.String()
}

// short is what told tells of c, as far as a fault should show it.
func short(c api.Call) string { return fmt.Sprintf("%.300s", told(c)) }

// isZero says whether c is zero; it may have empty lists.
func isZero(c api.Call) bool {
	return c.From == 0 && c.Id == 0 && c.Kind == 0 && c.Key == "" && c.Rev == 0 && len(c.Txn.Guards) == 0 && len(c.Txn.Writes) == 0
}

// askBack asks c, which may be, there and back, and tells its bytes.
func askBack(t *testing.T, c api.Call) []byte {
	t.Helper()
	b := call.Put(c)
	if !call.May(c) || len(b) == 0 {
		t.Errorf("P8.1: May is %v, and there are %d bytes, of %s", call.May(c), len(b), short(c))
	}
	if d, ok := call.Get(b); !ok || told(d) != told(c) || !call.Eq(c, d) {
		t.Errorf("P8.1: Get makes %s, %v of %s", short(d), ok, short(c))
	}
	return b
}

// askNone asks that c may not be, and has no bytes.
func askNone(t *testing.T, what string, c api.Call) {
	t.Helper()
	if b := call.Put(c); call.May(c) || b != nil {
		t.Errorf("P8.1: %s: May is %v, and there are %d bytes, of %s", what, call.May(c), len(b), short(c))
	}
}

// askNot asks that b are no call's bytes.
func askNot(t *testing.T, what string, b []byte) {
	t.Helper()
	if c, ok := call.Get(b); ok || !isZero(c) {
		t.Errorf("P8.1: Get makes %s, %v of %s", short(c), ok, what)
	}
}

// askAny asks that b are no call's bytes, or just those of what is told, which may be; and tells which.
func askAny(t *testing.T, what string, b []byte) bool {
	t.Helper()
	c, ok := call.Get(b)
	if !ok {
		askNot(t, what, b)
		return false
	}
	if !call.May(c) || !bytes.Equal(call.Put(c), b) {
		t.Errorf("P8.1: Get makes %s of %s, which are not its bytes", short(c), what)
	}
	return true
}

func TestThereAndBack(t *testing.T) {
	for _, c := range manyCalls() {
		askBack(t, c)
	}
}

func TestUnlikeCalls(t *testing.T) {
	cs := manyCalls()
	seen := map[string]int{}
	for k, c := range cs {
		b := string(call.Put(c))
		if j, is := seen[b]; is {
			t.Errorf("P8.1: %s and %s have the same bytes", short(cs[j]), short(c))
		}
		seen[b] = k
		for j, d := range cs {
			if call.Eq(c, d) != (j == k) {
				t.Errorf("P8.1: Eq is %v of %s and %s", j != k, short(c), short(d))
			}
		}
	}
}

func TestSameBytesEachTime(t *testing.T) {
	again := manyCalls()
	for k, c := range manyCalls() {
		if !bytes.Equal(call.Put(c), call.Put(c)) || !bytes.Equal(call.Put(c), call.Put(again[k])) || !call.Eq(c, again[k]) {
			t.Errorf("P8.1: alike calls have unlike bytes: %s", short(c))
		}
	}
}

func TestNumbersThereAndBack(t *testing.T) {
	for _, x := range []int64{1, 2, 7, 8, 127, 128, 255, 256, 257, 1<<16 - 1, 1 << 16, 1<<24 + 1, 1<<31 - 1, 1 << 31, 1<<32 - 1, 1 << 32, 1<<32 + 1, 1<<40 - 1, 1 << 40} {
		for from := range 8 {
			askBack(t, with(from, x, list()))
			askBack(t, with(from, x, watch(x)))
			askBack(t, with(from, 1, txn([]api.Guard{at("a", x), under("b", x-1)}, gone("c"))))
		}
	}
}

func TestEachLengthOfText(t *testing.T) {
	for n := 1; n <= 20; n++ {
		askBack(t, get(key20[:n]))
		askBack(t, get(strings.Repeat("\x00", n)))
		askBack(t, txn([]api.Guard{under(key20[:n], 1), at(strings.Repeat("\xff", n), 2)}, put(key20[20-n:], key20[n:]), gone(strings.Repeat("\x00", n))))
	}
	for n := range 300 {
		askBack(t, txn(nil, put("a", val4000[:n]), put("b", strings.Repeat("\x00", n))))
	}
	for _, n := range []int{511, 512, 1023, 1024, 3999, 4000} {
		askBack(t, txn(nil, put("a", val4000[:n]), put("b", strings.Repeat("\xff", n))))
	}
	for c := range 256 {
		text := string([]byte{byte(c)})
		askBack(t, get(text))
		askBack(t, get("a"+text))
		askBack(t, txn([]api.Guard{at(text, 1)}, put(text+"a", text), gone(text)))
	}
}

func TestEachLengthOfList(t *testing.T) {
	for n := range 21 {
		for m := range 65 {
			askBack(t, txn(guards(n), writes(m)...))
		}
	}
}

func TestNilLikeEmpty(t *testing.T) {
	empty := api.Txn{Guards: []api.Guard{}, Writes: []api.Write{}}
	for _, c := range []api.Call{list(), get("a"), watch(3), txn(nil)} {
		d := c
		d.Txn = empty
		if !call.Eq(c, d) || !call.Eq(d, c) || !bytes.Equal(askBack(t, c), askBack(t, d)) {
			t.Errorf("P0.4: empty lists are unlike nil ones in %s", short(c))
		}
	}
	if !call.Eq(api.Call{}, api.Call{Txn: empty}) || call.May(api.Call{Txn: empty}) {
		t.Error("P0.4: empty lists are unlike nil ones in the zero call")
	}
	for _, goes := range []bool{false, true} {
		c, d := txn(nil, api.Write{Key: "a", Gone: goes}), txn(nil, api.Write{Key: "a", Val: []byte{}, Gone: goes})
		if !call.Eq(c, d) || !call.Eq(d, c) || !bytes.Equal(askBack(t, c), askBack(t, d)) {
			t.Errorf("P0.4: an empty Val is unlike a nil one, Gone %v", goes)
		}
	}
	for _, b := range [][]byte{nil, {}} {
		askNot(t, "no bytes", b)
	}
}

// mostParts is a call with some of everything, which may not be; its parts are told apart by Eq all the same.
func mostParts() api.Call {
	return api.Call{From: 1, Id: 2, Kind: 3, Key: "key", Rev: 4, Txn: api.Txn{
		Guards: []api.Guard{at("a", 5), under("b", 6), at("c", 0)},
		Writes: []api.Write{put("d", "dd"), gone("e"), {Key: "f", Val: []byte("ff"), Gone: true}, put("g", "")},
	}}
}

// bend is one part of a call made another one.
type bend struct {
	what string
	do   func(c *api.Call)
}

// bendsOf are all ways to bend one part of c, of each guard and each write, too.
func bendsOf(c api.Call) []bend {
	bs := []bend{
		{"From", func(c *api.Call) { c.From++ }}, {"From, far", func(c *api.Call) { c.From += 1 << 32 }}, {"From, below 0", func(c *api.Call) { c.From = -c.From - 1 }},
		{"Id", func(c *api.Call) { c.Id++ }}, {"Id, far", func(c *api.Call) { c.Id ^= 1 << 39 }}, {"Id, below 0", func(c *api.Call) { c.Id = -c.Id - 1 }},
		{"Kind", func(c *api.Call) { c.Kind++ }}, {"Kind, one less", func(c *api.Call) { c.Kind-- }}, {"Kind, far", func(c *api.Call) { c.Kind += 1 << 32 }},
		{"Key", func(c *api.Call) { c.Key += "x" }}, {"Key, ahead", func(c *api.Call) { c.Key = "x" + c.Key }},
		{"Rev", func(c *api.Call) { c.Rev++ }}, {"Rev, far", func(c *api.Call) { c.Rev ^= 1 << 39 }}, {"Rev, below 0", func(c *api.Call) { c.Rev = -c.Rev - 1 }},
		{"one guard more", func(c *api.Call) { c.Txn.Guards = append(c.Txn.Guards, api.Guard{Key: "new"}) }}, {"a zero guard more", func(c *api.Call) { c.Txn.Guards = append(c.Txn.Guards, api.Guard{}) }},
		{"one write more", func(c *api.Call) { c.Txn.Writes = append(c.Txn.Writes, api.Write{Key: "new"}) }}, {"a zero write more", func(c *api.Call) { c.Txn.Writes = append(c.Txn.Writes, api.Write{}) }},
	}
	for k := range c.Txn.Guards {
		bs = append(bs, bendsOfGuard(k)...)
	}
	for k := range c.Txn.Writes {
		bs = append(bs, bendsOfWrite(k)...)
	}
	return bs
}

// bendsOfGuard are the ways to bend the k-th guard.
func bendsOfGuard(k int) []bend {
	what := fmt.Sprint("guard ", k, "'s ")
	return []bend{
		{what + "Key", func(c *api.Call) { c.Txn.Guards[k].Key += "x" }}, {what + "Key, ahead", func(c *api.Call) { c.Txn.Guards[k].Key = "x" + c.Txn.Guards[k].Key[1:] }},
		{what + "Rev", func(c *api.Call) { c.Txn.Guards[k].Rev++ }}, {what + "Rev, far", func(c *api.Call) { c.Txn.Guards[k].Rev ^= 1 << 39 }},
		{what + "Under", func(c *api.Call) { c.Txn.Guards[k].Under = !c.Txn.Guards[k].Under }},
		{what + "place", func(c *api.Call) { c.Txn.Guards = slices.Delete(c.Txn.Guards, k, k+1) }}, {what + "twin", func(c *api.Call) { c.Txn.Guards = slices.Insert(c.Txn.Guards, k, c.Txn.Guards[k]) }},
		{what + "turn", func(c *api.Call) { g := c.Txn.Guards[k]; c.Txn.Guards[k] = c.Txn.Guards[0]; c.Txn.Guards[0] = g }},
	}
}

// bendsOfWrite are the ways to bend the k-th write.
func bendsOfWrite(k int) []bend {
	what := fmt.Sprint("write ", k, "'s ")
	return []bend{
		{what + "Key", func(c *api.Call) { c.Txn.Writes[k].Key += "x" }}, {what + "Key, ahead", func(c *api.Call) { c.Txn.Writes[k].Key = "x" + c.Txn.Writes[k].Key[1:] }},
		{what + "Val, longer", func(c *api.Call) { c.Txn.Writes[k].Val = append(c.Txn.Writes[k].Val, 0) }},
		{what + "Val, other bytes", func(c *api.Call) {
			c.Txn.Writes[k].Val = append([]byte{'y'}, c.Txn.Writes[k].Val[min(1, len(c.Txn.Writes[k].Val)):]...)
		}},
		{what + "Gone", func(c *api.Call) { c.Txn.Writes[k].Gone = !c.Txn.Writes[k].Gone }},
		{what + "place", func(c *api.Call) { c.Txn.Writes = slices.Delete(c.Txn.Writes, k, k+1) }}, {what + "twin", func(c *api.Call) { c.Txn.Writes = slices.Insert(c.Txn.Writes, k, c.Txn.Writes[k]) }},
		{what + "turn", func(c *api.Call) { w := c.Txn.Writes[k]; c.Txn.Writes[k] = c.Txn.Writes[0]; c.Txn.Writes[0] = w }},
		{what + "Key and Val, moved", func(c *api.Call) {
			w := &c.Txn.Writes[k]
			w.Key, w.Val = w.Key+string(w.Val), nil
		}},
	}
}

func TestUnlikeInOnePart(t *testing.T) {
	several := txn([]api.Guard{at("a", 5), under("b", 6), at("c", 0)}, put("d", "dd"), gone("e"), api.Write{Key: "f", Val: []byte("ff"), Gone: true}, put("g", ""))
	for _, give := range []func() api.Call{
		mostParts, func() api.Call { return api.Call{} }, list, func() api.Call { return get("p/a") }, func() api.Call { return watch(9) }, func() api.Call { return txn(nil) },
		func() api.Call { c, _ := call.Get(call.Put(several)); return c },
	} {
		for _, bent := range bendsOf(give()) {
			c, d := give(), give()
			bent.do(&d)
			// Where a bend changes nothing (the first one's turn, a Val that is empty), they are alike.
			want := told(c) == told(d)
			if call.Eq(c, d) != want || call.Eq(d, c) != want || !call.Eq(d, d) {
				t.Errorf("P8.1: %s: Eq is not %v of %s and %s", bent.what, want, short(c), short(d))
			}
			if !call.May(c) || !call.May(d) {
				continue
			}
			if bytes.Equal(askBack(t, c), askBack(t, d)) != want {
				t.Errorf("P8.1: %s: the same bytes is not %v of %s and %s", bent.what, want, short(c), short(d))
			}
		}
	}
}

func TestEqOfWhatMayNotBe(t *testing.T) {
	ends := []int64{math.MinInt64, math.MinInt64 + 1, -1 << 32, -1, 0, 1, 1 << 32, 1<<32 + 1, math.MaxInt64 - 1, math.MaxInt64}
	long := strings.Repeat("k", 5000)
	var cs []api.Call
	for _, x := range ends {
		if x != 0 {
			cs = append(cs, api.Call{From: int(x)}, api.Call{Id: x}, api.Call{Kind: int(x)}, api.Call{Rev: x})
		}
		cs = append(cs, txn([]api.Guard{at("", x)}), txn([]api.Guard{under("", x)}))
	}
	cs = append(cs, api.Call{}, get(""), get(long), get(long+"k"), get(long[:4999]+"l"), txn(nil, put(long, "")), txn(nil, put("", long)), txn(nil, put("", long+"k")), txn(nil, put("", long[:4999]+"l")), txn(guards(21)), txn(guards(22)), txn(nil, writes(65)...), txn(nil, writes(66)...), txn(make([]api.Guard, 5000)), txn(make([]api.Guard, 5001)), txn(nil, make([]api.Write, 5000)...), txn(nil, make([]api.Write, 5001)...))
	for k, c := range cs {
		for j, d := range cs {
			if call.Eq(c, d) != (j == k) {
				t.Errorf("P8.1: Eq is %v of %s and %s", j != k, short(c), short(d))
			}
		}
	}
}
