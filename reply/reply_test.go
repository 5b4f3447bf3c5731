package reply_test

import (
	"bytes"
	"fmt"
	"math"
	"slices"
	"strings"
	"testing"

	"interrex/api"
	"interrex/reply"
)

// The greatest numbers and texts that an answer may have.
const (
	mostId  = 1 << 40
	mostRev = 1 << 40
	most    = 100
	key20   = "p/abcdefghijklmnop20"
)

// val4000 is the longest Val.
var val4000 = strings.Repeat("v", api.MaxVal)

// entry is one.
func entry(key string, rev int64, val string) api.Entry {
	return api.Entry{Key: key, Rev: rev, Val: []byte(val)}
}

// wrote, went: events.
func wrote(rev int64, key, val string) api.Event {
	return api.Event{Rev: rev, Key: key, Val: []byte(val)}
}

func went(rev int64, key string) api.Event { return api.Event{Rev: rev, Key: key, Gone: true} }

// with is an answer of these entries and events.
func with(es []api.Entry, vs ...api.Event) api.Answer {
	return api.Answer{To: 1, Id: 5, Kind: api.CList, Rev: 9, Entries: es, Events: vs}
}

// head is an answer without entries and events.
func head(to int, id int64, kind int, err api.Errno, rev int64) api.Answer {
	return api.Answer{To: to, Id: id, Kind: kind, Err: err, Rev: rev}
}

// entries are that many, no two alike.
func entries(n int) []api.Entry {
	var es []api.Entry
	for k := range n {
		es = append(es, entry(fmt.Sprint("n/", k), 1+int64(k)<<33, strings.Repeat(string(rune('a'+k%26)), k)))
	}
	return es
}

// events are that many, no two alike, with Gone ones and ones with empty Vals among them.
func events(n int) []api.Event {
	var vs []api.Event
	for k := range n {
		switch k % 3 {
		case 0:
			vs = append(vs, wrote(1+int64(k), fmt.Sprint("p/", k), strings.Repeat("\x00", k)))
		case 1:
			vs = append(vs, went(1+int64(k), fmt.Sprint("p/", k)))
		default:
			vs = append(vs, wrote(1+int64(k)<<33, fmt.Sprint("p/", k), ""))
		}
	}
	return vs
}

// greatest is the greatest answer that may be.
func greatest() api.Answer {
	a := head(7, mostId, api.CTxn, api.ErrOff, mostRev)
	for k := range most {
		a.Entries = append(a.Entries, entry(fmt.Sprintf("%020d", k), mostRev, val4000))
		a.Events = append(a.Events, wrote(mostRev, fmt.Sprintf("%020d", k), val4000))
	}
	return a
}

// heads are answers of each Kind and each Err without entries and events, no two alike.
func heads() []api.Answer {
	var as []api.Answer
	for kind := api.CGet; kind <= api.CTxn; kind++ {
		for err := api.OK; err <= api.ErrOff; err++ {
			as = append(as, head(2, 11, kind, err, 0), head(0, 1, kind, err, 1), head(7, mostId, kind, err, mostRev))
		}
	}
	return as
}

// manyAnswers are answers that may be, no two alike.
func manyAnswers() []api.Answer {
	as := append(heads(),
		with(nil), with([]api.Entry{entry("a", 1, "")}), with(nil, wrote(1, "a", "")), with(nil, went(1, "a")), with([]api.Entry{entry("a", 1, "")}, wrote(1, "a", "")), with([]api.Entry{entry("a", 1, "")}, went(1, "a")),
		with([]api.Entry{entry("a", 1, ""), entry("a", 1, "")}), with(nil, went(1, "a"), went(1, "a")), with([]api.Entry{entry("l", mostRev, "v")}), with([]api.Entry{entry("l", 1, "\x00")}), with(nil, wrote(1, "l", "\x00")), with(nil, wrote(mostRev, "l", "v")), with(nil, went(mostRev, "l")),
		with([]api.Entry{entry(key20, 3, val4000)}), with([]api.Entry{entry(key20, 3, val4000[1:])}), with([]api.Entry{entry(key20[1:], 3, val4000)}), with(nil, wrote(3, key20, val4000)), with(nil, wrote(3, key20, val4000[1:])), with(nil, wrote(3, key20[1:], val4000)), with(nil, went(3, key20)),
		with([]api.Entry{entry("\x00", 2, ""), entry("\xff", 1, "\xff\x00")}), with([]api.Entry{entry("\xff", 1, "\xff\x00"), entry("\x00", 2, "")}), with(nil, went(2, "\x00"), wrote(1, "\xff", "\xff\x00")), with(nil, wrote(1, "\xff", "\xff\x00"), went(2, "\x00")),
		// Entries in no order, and two of a Key; events of falling Revs: the chapter lets all be.
		with([]api.Entry{entry("b", 1, "x"), entry("a", 2, "y"), entry("b", 3, "z")}), with(nil, wrote(3, "a", "x"), wrote(2, "a", "y"), went(1, "a")),
		with(entries(99)), with(entries(100)), with(nil, events(99)...), with(nil, events(100)...), with(entries(100), events(1)...), with(entries(1), events(100)...), with(entries(100), events(100)...), greatest(),
	)
	// What follows from how many there are of each.
	for n := range 6 {
		a := with(entries(n), events(5-n)...)
		a.Id = 6
		as = append(as, a)
	}
	return as
}

// told tells all parts of a; an empty list as none.
func told(a api.Answer) string {
	var b strings.Builder
	fmt.Fprintf(&b, "To %d, Id %d, Kind %d, Err %d, Rev %d", a.To, a.Id, a.Kind, a.Err, a.Rev)
	for _, e := range a.Entries {
		fmt.Fprintf(&b, ", entry %q at %d, %q", e.Key, e.Rev, e.Val)
	}
	for _, e := range a.Events {
		fmt.Fprintf(&b, ", event at %d of %q, %q, Gone %v", e.Rev, e.Key, e.Val, e.Gone)
	}
	return b.String()
}

// short is what told tells of a, as far as a fault should show it.
func short(a api.Answer) string { return fmt.Sprintf("%.300s", told(a)) }

// isZero says whether a is zero; it may have empty lists.
func isZero(a api.Answer) bool {
	return a.To == 0 && a.Id == 0 && a.Kind == 0 && a.Err == api.OK && a.Rev == 0 && len(a.Entries) == 0 && len(a.Events) == 0
}

// askBack asks a, which may be, there and back, and tells its bytes.
func askBack(t *testing.T, a api.Answer) []byte {
	t.Helper()
	b := reply.Put(a)
	if !reply.May(a) || len(b) == 0 {
		t.Errorf("P9.1: May is %v, and there are %d bytes, of %s", reply.May(a), len(b), short(a))
	}
	if d, ok := reply.Get(b); !ok || told(d) != told(a) || !reply.Eq(a, d) {
		t.Errorf("P9.1: Get makes %s, %v of %s", short(d), ok, short(a))
	}
	return b
}

// askNone asks that a may not be, and has no bytes.
func askNone(t *testing.T, what string, a api.Answer) {
	t.Helper()
	if b := reply.Put(a); reply.May(a) || b != nil {
		t.Errorf("P9.1: %s: May is %v, and there are %d bytes, of %s", what, reply.May(a), len(b), short(a))
	}
}

// askNot asks that b are no answer's bytes.
func askNot(t *testing.T, what string, b []byte) {
	t.Helper()
	if a, ok := reply.Get(b); ok || !isZero(a) {
		t.Errorf("P9.1: Get makes %s, %v of %s", short(a), ok, what)
	}
}

// askAny asks that b are no answer's bytes, or just those of what is told, which may be; and tells which.
func askAny(t *testing.T, what string, b []byte) bool {
	t.Helper()
	a, ok := reply.Get(b)
	if !ok {
		askNot(t, what, b)
		return false
	}
	if !reply.May(a) || !bytes.Equal(reply.Put(a), b) {
		t.Errorf("P9.1: Get makes %s of %s, which are not its bytes", short(a), what)
	}
	return true
}

func TestThereAndBack(t *testing.T) {
	for _, a := range manyAnswers() {
		askBack(t, a)
	}
}

func TestUnlikeAnswers(t *testing.T) {
	as := manyAnswers()
	seen := map[string]int{}
	for k, a := range as {
		b := string(reply.Put(a))
		if j, is := seen[b]; is {
			t.Errorf("P9.1: %s and %s have the same bytes", short(as[j]), short(a))
		}
		seen[b] = k
		for j, d := range as {
			if reply.Eq(a, d) != (j == k) {
				t.Errorf("P9.1: Eq is %v of %s and %s", j != k, short(a), short(d))
			}
		}
	}
}

func TestSameBytesEachTime(t *testing.T) {
	again := manyAnswers()
	for k, a := range manyAnswers() {
		if !bytes.Equal(reply.Put(a), reply.Put(a)) || !bytes.Equal(reply.Put(a), reply.Put(again[k])) || !reply.Eq(a, again[k]) {
			t.Errorf("P9.1: alike answers have unlike bytes: %s", short(a))
		}
	}
}

func TestNumbersThereAndBack(t *testing.T) {
	for _, x := range []int64{1, 2, 7, 8, 127, 128, 255, 256, 257, 1<<16 - 1, 1 << 16, 1<<24 + 1, 1<<31 - 1, 1 << 31, 1<<32 - 1, 1 << 32, 1<<32 + 1, 1<<40 - 1, 1 << 40} {
		for to := range 8 {
			askBack(t, head(to, x, api.CGet, api.OK, x))
			askBack(t, head(to, x, api.CTxn, api.ErrGuard, x-1))
		}
		askBack(t, with([]api.Entry{entry("a", x, "v"), entry("b", mostRev+1-x, "")}, wrote(x, "a", "v"), went(mostRev+1-x, "b")))
	}
}

func TestEachLengthOfText(t *testing.T) {
	for n := 1; n <= 20; n++ {
		zeros := strings.Repeat("\x00", n)
		askBack(t, with([]api.Entry{entry(key20[:n], 1, key20[n:]), entry(zeros, 2, zeros)}, wrote(1, key20[20-n:], key20[n:]), went(2, zeros), wrote(3, strings.Repeat("\xff", n), zeros)))
	}
	for n := range 300 {
		askBack(t, with([]api.Entry{entry("a", 1, val4000[:n])}, wrote(1, "b", strings.Repeat("\x00", n))))
	}
	for _, n := range []int{511, 512, 1023, 1024, 3999, 4000} {
		askBack(t, with([]api.Entry{entry("a", 1, strings.Repeat("\xff", n))}, wrote(1, "b", val4000[:n])))
	}
	for c := range 256 {
		text := string([]byte{byte(c)})
		askBack(t, with([]api.Entry{entry(text, 1, text), entry("a"+text, 1, text+"a")}, wrote(1, text, text), went(1, "a"+text)))
	}
}

func TestEachLengthOfList(t *testing.T) {
	es, vs := entries(most), events(most)
	for n := range most + 1 {
		for _, m := range []int{0, 1, 2, n / 2, n, most - n, 99, 100} {
			askBack(t, with(es[:n], vs[:m]...))
		}
	}
}

func TestNilLikeEmpty(t *testing.T) {
	empty := func(a api.Answer) api.Answer {
		a.Entries, a.Events = []api.Entry{}, []api.Event{}
		return a
	}
	for _, a := range heads() {
		d := empty(a)
		if !reply.Eq(a, d) || !reply.Eq(d, a) || !bytes.Equal(askBack(t, a), askBack(t, d)) {
			t.Errorf("P0.4: empty lists are unlike nil ones in %s", short(a))
		}
	}
	if !reply.Eq(api.Answer{}, empty(api.Answer{})) || reply.May(empty(api.Answer{})) {
		t.Error("P0.4: empty lists are unlike nil ones in the zero answer")
	}
	for _, goes := range []bool{false, true} {
		a := with([]api.Entry{{Key: "a", Rev: 1}}, api.Event{Rev: 1, Key: "a", Gone: goes})
		d := with([]api.Entry{{Key: "a", Rev: 1, Val: []byte{}}}, api.Event{Rev: 1, Key: "a", Val: []byte{}, Gone: goes})
		if !reply.Eq(a, d) || !reply.Eq(d, a) || !bytes.Equal(askBack(t, a), askBack(t, d)) {
			t.Errorf("P0.4: an empty Val is unlike a nil one, Gone %v", goes)
		}
	}
	for _, b := range [][]byte{nil, {}} {
		askNot(t, "no bytes", b)
	}
}

// mostParts is an answer with some of everything, which may not be; its parts are told apart by Eq all the same.
func mostParts() api.Answer {
	return api.Answer{To: 1, Id: 2, Kind: 3, Err: 4, Rev: 5,
		Entries: []api.Entry{entry("a", 6, "aa"), entry("b", 7, ""), entry("c", 0, "c")},
		Events:  []api.Event{wrote(8, "d", "dd"), went(9, "e"), {Rev: 10, Key: "f", Val: []byte("ff"), Gone: true}, wrote(0, "g", "")},
	}
}

// bend is one part of an answer made another one.
type bend struct {
	what string
	do   func(a *api.Answer)
}

// bendsOf are all ways to bend one part of a, of each entry and each event, too.
func bendsOf(a api.Answer) []bend {
	bs := []bend{
		{"To", func(a *api.Answer) { a.To++ }}, {"To, far", func(a *api.Answer) { a.To += 1 << 32 }}, {"To, below 0", func(a *api.Answer) { a.To = -a.To - 1 }},
		{"Id", func(a *api.Answer) { a.Id++ }}, {"Id, far", func(a *api.Answer) { a.Id ^= 1 << 39 }}, {"Id, below 0", func(a *api.Answer) { a.Id = -a.Id - 1 }},
		{"Kind", func(a *api.Answer) { a.Kind++ }}, {"Kind, one less", func(a *api.Answer) { a.Kind-- }}, {"Kind, far", func(a *api.Answer) { a.Kind += 1 << 32 }},
		{"Err", func(a *api.Answer) { a.Err++ }}, {"Err, one less", func(a *api.Answer) { a.Err-- }}, {"Err, far", func(a *api.Answer) { a.Err += 1 << 32 }},
		{"Rev", func(a *api.Answer) { a.Rev++ }}, {"Rev, far", func(a *api.Answer) { a.Rev ^= 1 << 39 }}, {"Rev, below 0", func(a *api.Answer) { a.Rev = -a.Rev - 1 }},
		{"one entry more", func(a *api.Answer) { a.Entries = append(a.Entries, entry("new", 1, "")) }}, {"a zero entry more", func(a *api.Answer) { a.Entries = append(a.Entries, api.Entry{}) }},
		{"one event more", func(a *api.Answer) { a.Events = append(a.Events, wrote(1, "new", "")) }}, {"a zero event more", func(a *api.Answer) { a.Events = append(a.Events, api.Event{}) }},
	}
	for k := range a.Entries {
		bs = append(bs, bendsOfEntry(k)...)
	}
	for k := range a.Events {
		bs = append(bs, bendsOfEvent(k)...)
	}
	return bs
}

// otherByte is val with another first byte, or with one, if it has none.
func otherByte(val []byte) []byte {
	if len(val) == 0 {
		return []byte{'y'}
	}
	return append([]byte{val[0] ^ 1}, val[1:]...)
}

// bendsOfEntry are the ways to bend the k-th entry.
func bendsOfEntry(k int) []bend {
	what := fmt.Sprint("entry ", k, "'s ")
	at := func(do func(e *api.Entry)) func(a *api.Answer) { return func(a *api.Answer) { do(&a.Entries[k]) } }
	return []bend{
		{what + "Key", at(func(e *api.Entry) { e.Key += "x" })}, {what + "Key, ahead", at(func(e *api.Entry) { e.Key = "x" + e.Key[1:] })},
		{what + "Rev", at(func(e *api.Entry) { e.Rev++ })}, {what + "Rev, far", at(func(e *api.Entry) { e.Rev ^= 1 << 39 })},
		{what + "Val, longer", at(func(e *api.Entry) { e.Val = append(e.Val, 0) })}, {what + "Val, other bytes", at(func(e *api.Entry) { e.Val = otherByte(e.Val) })},
		{what + "Val, moved", at(func(e *api.Entry) { e.Key, e.Val = e.Key+string(e.Val), nil })},
		{what + "place", func(a *api.Answer) { a.Entries = slices.Delete(a.Entries, k, k+1) }}, {what + "twin", func(a *api.Answer) { a.Entries = slices.Insert(a.Entries, k, a.Entries[k]) }},
		{what + "turn", func(a *api.Answer) { a.Entries[0], a.Entries[k] = a.Entries[k], a.Entries[0] }},
		{what + "list", func(a *api.Answer) {
			e := a.Entries[k]
			a.Entries = slices.Delete(a.Entries, k, k+1)
			a.Events = append(a.Events, api.Event{Rev: e.Rev, Key: e.Key, Val: e.Val})
		}},
	}
}

// bendsOfEvent are the ways to bend the k-th event.
func bendsOfEvent(k int) []bend {
	what := fmt.Sprint("event ", k, "'s ")
	at := func(do func(e *api.Event)) func(a *api.Answer) { return func(a *api.Answer) { do(&a.Events[k]) } }
	return []bend{
		{what + "Key", at(func(e *api.Event) { e.Key += "x" })}, {what + "Key, ahead", at(func(e *api.Event) { e.Key = "x" + e.Key[1:] })},
		{what + "Rev", at(func(e *api.Event) { e.Rev++ })}, {what + "Rev, far", at(func(e *api.Event) { e.Rev ^= 1 << 39 })},
		{what + "Val, longer", at(func(e *api.Event) { e.Val = append(e.Val, 0) })}, {what + "Val, other bytes", at(func(e *api.Event) { e.Val = otherByte(e.Val) })},
		{what + "Val, moved", at(func(e *api.Event) { e.Key, e.Val = e.Key+string(e.Val), nil })},
		{what + "Gone", at(func(e *api.Event) { e.Gone = !e.Gone })}, {what + "Gone, without a Val", at(func(e *api.Event) { e.Gone, e.Val = !e.Gone, nil })},
		{what + "place", func(a *api.Answer) { a.Events = slices.Delete(a.Events, k, k+1) }}, {what + "twin", func(a *api.Answer) { a.Events = slices.Insert(a.Events, k, a.Events[k]) }},
		{what + "turn", func(a *api.Answer) { a.Events[0], a.Events[k] = a.Events[k], a.Events[0] }},
	}
}

func TestUnlikeInOnePart(t *testing.T) {
	several := with([]api.Entry{entry("a", 6, "aa"), entry("b", 7, ""), entry("c", 1, "c")}, wrote(8, "d", "dd"), went(9, "e"), wrote(10, "f", "ff"), wrote(1, "g", ""))
	for _, give := range []func() api.Answer{
		mostParts, func() api.Answer { return api.Answer{} }, func() api.Answer { return with(nil) }, func() api.Answer { return head(3, 4, api.CTxn, api.ErrGuard, 6) },
		func() api.Answer { return with([]api.Entry{entry("p/a", 1, "v")}) }, func() api.Answer { return with(nil, wrote(1, "p/a", "v")) },
		func() api.Answer { a, _ := reply.Get(reply.Put(several)); return a },
	} {
		for _, bent := range bendsOf(give()) {
			a, d := give(), give()
			bent.do(&d)
			// Where a bend changes nothing (the first one's turn, a Val that is empty), they are alike.
			want := told(a) == told(d)
			if reply.Eq(a, d) != want || reply.Eq(d, a) != want || !reply.Eq(d, d) {
				t.Errorf("P9.1: %s: Eq is not %v of %s and %s", bent.what, want, short(a), short(d))
			}
			if !reply.May(a) || !reply.May(d) {
				continue
			}
			if bytes.Equal(askBack(t, a), askBack(t, d)) != want {
				t.Errorf("P9.1: %s: the same bytes is not %v of %s and %s", bent.what, want, short(a), short(d))
			}
		}
	}
}

func TestEqOfWhatMayNotBe(t *testing.T) {
	ends := []int64{math.MinInt64, math.MinInt64 + 1, -1 << 32, -1, 0, 1, 1 << 32, 1<<32 + 1, math.MaxInt64 - 1, math.MaxInt64}
	long := strings.Repeat("k", 5000)
	var as []api.Answer
	for _, x := range ends {
		if x != 0 {
			as = append(as, api.Answer{To: int(x)}, api.Answer{Id: x}, api.Answer{Kind: int(x)}, api.Answer{Err: api.Errno(x)}, api.Answer{Rev: x})
		}
		as = append(as, with([]api.Entry{entry("", x, "")}), with(nil, wrote(x, "", "")), with(nil, went(x, "")))
	}
	as = append(as, api.Answer{})
	for _, text := range []string{long, long + "k", long[:4999] + "l"} {
		as = append(as, with([]api.Entry{entry(text, 0, "")}), with([]api.Entry{entry("", 0, text)}), with(nil, wrote(0, text, "")), with(nil, wrote(0, "", text)), with(nil, api.Event{Val: []byte(text), Gone: true}))
	}
	for _, n := range []int{101, 102, 5000, 5001} {
		as = append(as, with(make([]api.Entry, n)), with(nil, make([]api.Event, n)...))
	}
	for k, a := range as {
		for j, d := range as {
			if reply.Eq(a, d) != (j == k) {
				t.Errorf("P9.1: Eq is %v of %s and %s", j != k, short(a), short(d))
			}
		}
	}
}
