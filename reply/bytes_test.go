package reply_test

import (
	"bytes"
	"encoding/binary"
	"fmt"
	"math"
	"slices"
	"strings"
	"testing"

	"interrex/api"
	"interrex/reply"
)

// written are the bytes of answers of many makes.
func written() map[string][]byte {
	return map[string][]byte{
		"a head's": reply.Put(head(1, 5, api.CGet, api.ErrNone, 3)), "a small head's": reply.Put(head(0, 1, api.CGet, api.OK, 0)), "a great head's": reply.Put(head(7, mostId, api.CTxn, api.ErrOff, mostRev)),
		"an entry's": reply.Put(with([]api.Entry{entry("p/a", 4, "bound")})), "an empty entry's": reply.Put(with([]api.Entry{entry(key20, mostRev, "")})), "entries'": reply.Put(with(entries(4))),
		"an event's": reply.Put(with(nil, wrote(4, "p/a", "bound"))), "a Gone one's": reply.Put(with(nil, went(4, key20))), "events'": reply.Put(with(nil, events(6)...)),
		"both's": reply.Put(with([]api.Entry{entry("p/a", 4, "bound"), entry("q", 1, "")}, wrote(4, "p/a", "bound"), went(5, "q"), wrote(6, "r", ""))), "a great many's": reply.Put(with(entries(30), events(30)...)),
	}
}

// few is up to how many bytes each one is asked in all ways.
const few = 400

func TestCutOff(t *testing.T) {
	for what, b := range written() {
		for n := range b {
			askNot(t, fmt.Sprint(what, " up to ", n), b[:n])
			// With what was cut off in the spare room, and without.
			askNot(t, fmt.Sprint(what, " up to ", n), bytes.Clone(b[:n]))
			if n > 0 {
				askAny(t, fmt.Sprint(what, " from ", n, " on"), b[n:])
			}
		}
	}
	b := reply.Put(greatest())
	for n := 0; n < len(b); n += 1 + n%997 {
		askNot(t, fmt.Sprint("the greatest one's up to ", n), b[:n])
	}
	for n := range 100 {
		askNot(t, fmt.Sprint("the greatest one's but the last ", n+1), b[:len(b)-n-1])
		askNot(t, fmt.Sprint("the greatest one's but the last ", 41*n+1), b[:len(b)-41*n-1])
	}
}

func TestMoreBytes(t *testing.T) {
	all := written()
	all["a greater one's"] = reply.Put(with([]api.Entry{entry("a", 1, val4000)}, wrote(1, "a", val4000)))
	for what, b := range all {
		for c := range 256 {
			askNot(t, what+" with a byte behind them", append(bytes.Clone(b), byte(c)))
			askNot(t, what+" with a word behind them", append(bytes.Clone(b), 0, 0, 0, 0, 0, 0, 0, byte(c)))
			if len(b) < few {
				askAny(t, what+" with a byte ahead of them", append([]byte{byte(c)}, b...))
			}
		}
		askNot(t, what+" twice", append(bytes.Clone(b), b...))
		askNot(t, what+" with many behind them", append(bytes.Clone(b), make([]byte, 5000)...))
		if len(b) > few {
			continue
		}
		for k := range b {
			askAny(t, fmt.Sprint(what, " with a byte at ", k), slices.Insert(bytes.Clone(b), k, 0))
			askAny(t, fmt.Sprint(what, " without that at ", k), slices.Delete(bytes.Clone(b), k, k+1))
		}
	}
	b := reply.Put(greatest())
	for _, c := range []byte{0, 1, 255} {
		askNot(t, "the greatest one's with a byte behind them", append(bytes.Clone(b), c))
	}
}

// askTurned asks b, the bytes of a, with another one at k.
func askTurned(t *testing.T, what string, a api.Answer, b []byte, k int, other byte) {
	t.Helper()
	was := b[k]
	b[k] = other
	what = fmt.Sprint(what, " with ", other, " at ", k)
	if askAny(t, what, b) {
		if d, _ := reply.Get(b); reply.Eq(a, d) {
			t.Errorf("P9.1: Get makes the same of %s", what)
		}
	}
	b[k] = was
}

func TestEachByteTurned(t *testing.T) {
	for what, b := range written() {
		a, _ := reply.Get(b)
		for k, was := range b {
			if len(b) > few {
				askTurned(t, what, a, b, k, was^1<<(k%8))
				continue
			}
			for other := range 256 {
				if byte(other) != was {
					askTurned(t, what, a, b, k, byte(other))
				}
			}
		}
	}
	a := greatest()
	b, x := reply.Put(a), coin(3)
	for range 100 {
		k := x.of(len(b))
		askTurned(t, "the greatest one's", a, b, k, b[k]^1<<x.of(8))
	}
}

// text is one as it is written: how many bytes it has, and these.
func text(s string) []any { return []any{len(s), s} }

// join is all of what xs say, one behind the other.
func join(xs ...any) []any {
	var all []any
	for _, x := range xs {
		if l, ok := x.([]any); ok {
			all = append(all, join(l...)...)
			continue
		}
		all = append(all, x)
	}
	return all
}

// bytesOf are the bytes of these numbers and texts.
func bytesOf(xs ...any) []byte {
	var b []byte
	for _, x := range join(xs...) {
		switch x := x.(type) {
		case int:
			b = binary.BigEndian.AppendUint64(b, uint64(x))
		case uint64:
			b = binary.BigEndian.AppendUint64(b, x)
		case string:
			b = append(b, x...)
		}
	}
	return b
}

// parted is an ordinary answer, and its parts as they are written.
func parted() (api.Answer, []any) {
	a := with([]api.Entry{entry("l", 4, "ab"), entry("p/", 1, "")}, wrote(4, "p/a", "bound"), went(5, "q"), wrote(6, "r", ""))
	return a, join(1, 5, api.CList, 0, 9, 2, text("l"), 4, text("ab"), text("p/"), 1, text(""), 3, 4, text("p/a"), text("bound"), 0, 5, text("q"), text(""), 1, 6, text("r"), text(""), 0)
}

func TestEachNumberTurned(t *testing.T) {
	a, parts := parted()
	if b := bytesOf(parts...); !bytes.Equal(b, reply.Put(a)) {
		t.Fatalf("P9.1: the bytes of %s are %v; not %v", short(a), reply.Put(a), b)
	}
	for k, part := range parts {
		was, ok := part.(int)
		if !ok {
			continue
		}
		for _, x := range []uint64{
			0, 1, 2, 3, 4, 5, 6, 7, 8, 9, 10, 19, 20, 21, 22, 63, 64, 65, 66, 99, 100, 101, 102, 255, 256, 3999, 4000, 4001, 1 << 16, 1<<31 - 1, 1 << 31, 1<<32 - 1, 1 << 32, 1<<32 + 1, 1<<40 - 1, 1 << 40, 1<<40 + 1,
			1 << 56, 1 << 59, 1 << 60, 1 << 61, 1 << 62, 1<<63 - 1, 1 << 63, 1<<63 + 1, math.MaxUint64 - 7, math.MaxUint64 - 1, math.MaxUint64,
			uint64(was) + 1, uint64(was) - 1, uint64(was) + 1<<8, uint64(was) + 1<<16, uint64(was) + 1<<32, uint64(was) + 1<<63, -uint64(was),
		} {
			turned := slices.Clone(parts)
			turned[k] = x
			what := fmt.Sprint("the number ", x, " at ", k)
			if !askAny(t, what, bytesOf(turned...)) {
				continue
			}
			if d, _ := reply.Get(bytesOf(turned...)); reply.Eq(a, d) != (x == uint64(was)) {
				t.Errorf("P9.1: Get makes %s of %s", short(d), what)
			}
		}
	}
}

func TestNumbersThatPromiseMore(t *testing.T) {
	first := []any{1, 5, api.CList, 0, 9}
	more := []uint64{1, 2, 7, 8, 9, 19, 20, 21, 99, 100, 101, 255, 256, 3999, 4000, 4001, 1 << 31, 1 << 32, 1 << 40, 1 << 61, 1 << 62, 1<<63 - 1, 1 << 63, math.MaxUint64 - 8, math.MaxUint64}
	for _, n := range more {
		for what, b := range map[string][]byte{
			"entries": bytesOf(first, n), "entries, and no events": bytesOf(first, n, 0), "entries behind one": bytesOf(first, n+1, text("a"), 1, text("v")),
			"events": bytesOf(first, 0, n), "events behind one": bytesOf(first, 0, n+1, 1, text("a"), text("v"), 0),
			"an entry's Key's": bytesOf(first, 1, n), "an entry's Key's, and nothing but what follows it": bytesOf(first, 1, n, 1, 0, 0), "an entry's Val's": bytesOf(first, 1, text("a"), 1, n), "an event's Key's": bytesOf(first, 0, 1, 1, n), "an event's Val's": bytesOf(first, 0, 1, 1, text("a"), n),
		} {
			askNot(t, fmt.Sprint(what, " bytes that promise ", n, ", with nothing behind them"), b)
			askNot(t, fmt.Sprint(what, " bytes that promise ", n, ", with some behind them"), append(b, 0, 0, 0))
		}
	}
	for _, n := range more[8:] {
		zeros := strings.Repeat("\x00", 1<<16)
		askNot(t, fmt.Sprint(n, " entries of zeros"), bytesOf(first, n, zeros))
		askNot(t, fmt.Sprint(n, " events of zeros"), bytesOf(first, 0, n, zeros))
	}
}

func TestMoreThanMayBe(t *testing.T) {
	// All as it should be, but for what is beyond; and the same, just not beyond.
	first := []any{1, 5, api.CWatch, 0, 9}
	ofLists := func(es, vs []any) []byte { return bytesOf(first, es, vs) }
	entry := func(key string, rev any, val string) []any { return []any{text(key), rev, text(val)} }
	event := func(rev any, key, val string, goes int) []any { return []any{rev, text(key), text(val), goes} }
	several := func(n int, x []any) []any { return []any{n, slices.Repeat([]any{x}, n)} }
	none := []any{0}
	long := strings.Repeat("k", 5000)
	type ask struct {
		what string
		b    []byte
		want bool
	}
	asks := []ask{
		{"100 entries", ofLists(several(100, entry("a", 1, "v")), none), true}, {"101 entries", ofLists(several(101, entry("a", 1, "v")), none), false}, {"300 entries", ofLists(several(300, entry("a", 1, "v")), none), false},
		{"100 events", ofLists(none, several(100, event(1, "a", "v", 0))), true}, {"101 events", ofLists(none, several(101, event(1, "a", "v", 0))), false}, {"300 events", ofLists(none, several(300, event(1, "a", "", 1))), false},
		{"100 of both", ofLists(several(100, entry("a", 1, "")), several(100, event(1, "a", "", 1))), true},
		{"a Gone one's Val of a byte", ofLists(none, several(1, event(1, "a", "v", 1))), false}, {"a Gone one's Val of 4000 bytes", ofLists(none, several(1, event(1, "a", long[:4000], 1))), false}, {"a Gone one's empty Val", ofLists(none, several(1, event(1, "a", "", 1))), true},
	}
	for n, want := range map[int]bool{0: false, 1: true, 19: true, 20: true, 21: false, 276: false} {
		asks = append(asks, ask{fmt.Sprint("an entry's Key of ", n, " bytes"), ofLists(several(1, entry(long[:n], 1, "v")), none), want}, ask{fmt.Sprint("an event's Key of ", n, " bytes"), ofLists(none, several(1, event(1, long[:n], "v", 0))), want}, ask{fmt.Sprint("a Gone one's Key of ", n, " bytes"), ofLists(none, several(1, event(1, long[:n], "", 1))), want})
	}
	for n, want := range map[int]bool{0: true, 1: true, 3999: true, 4000: true, 4001: false, 5000: false} {
		asks = append(asks, ask{fmt.Sprint("an entry's Val of ", n, " bytes"), ofLists(several(1, entry("a", 1, long[:n])), none), want}, ask{fmt.Sprint("an event's Val of ", n, " bytes"), ofLists(none, several(1, event(1, "a", long[:n], 0))), want})
	}
	for rev, want := range map[int]bool{-1: false, 0: false, 1: true, mostRev: true, mostRev + 1: false, math.MaxInt: false, math.MinInt: false} {
		asks = append(asks, ask{fmt.Sprint("an entry's Rev ", rev), ofLists(several(1, entry("a", rev, "v")), none), want}, ask{fmt.Sprint("an event's Rev ", rev), ofLists(none, several(1, event(rev, "a", "v", 0))), want}, ask{fmt.Sprint("a Gone one's Rev ", rev), ofLists(none, several(1, event(rev, "a", "", 1))), want})
	}
	for _, x := range []struct {
		k            int
		what         string
		right, wrong []int
	}{
		{0, "To", []int{0, 7}, []int{-1, 8, 1 << 32, math.MinInt, math.MaxInt}}, {1, "Id", []int{1, mostId}, []int{-1, 0, mostId + 1, math.MinInt, math.MaxInt}}, {2, "Kind", []int{api.CGet, api.CTxn}, []int{-1, 0, 5, 1<<32 + 2, math.MinInt, math.MaxInt}},
		{3, "Err", []int{int(api.OK), int(api.ErrOff)}, []int{-1, 10, 1 << 32, math.MinInt, math.MaxInt}}, {4, "Rev", []int{0, mostRev}, []int{-1, mostRev + 1, math.MinInt, math.MaxInt}},
	} {
		for k, l := range [][]int{x.wrong, x.right} {
			for _, n := range l {
				turned := slices.Clone(first)
				turned[x.k] = n
				asks = append(asks, ask{fmt.Sprint(x.what, " ", n), bytesOf(turned, 0, 0), k == 1})
			}
		}
	}
	for flag := range 300 {
		asks = append(asks, ask{fmt.Sprint("Gone ", flag), ofLists(none, several(1, event(1, "a", "", flag))), flag < 2})
	}
	for _, x := range asks {
		if askAny(t, x.what, x.b) != x.want {
			t.Errorf("P9.1: Get of bytes with %s is not %v", x.what, x.want)
		}
	}
}

// coin throws numbers, always the same ones.
type coin uint64

// of is a number from 0 to k less one.
func (c *coin) of(k int) int {
	*c = *c*6364136223846793005 + 1442695040888963407
	return int(*c>>33) % k
}

// text is a text of at most that many bytes.
func (c *coin) text(most int) string {
	b := make([]byte, c.of(most+1))
	for k := range b {
		b[k] = byte(c.of(256))
	}
	return string(b)
}

// answer is any one that may be, but that it may have too many entries or events.
func (c *coin) answer() api.Answer {
	a := head(c.of(8), int64(1+c.of(1<<30)), 1+c.of(4), api.Errno(c.of(10)), int64(c.of(1<<30)))
	for range c.of(103) {
		a.Entries = append(a.Entries, entry("e"+c.text(19), int64(1+c.of(1<<30)), c.text(20)))
	}
	for range c.of(103) {
		if c.of(3) == 0 {
			a.Events = append(a.Events, went(int64(1+c.of(1<<30)), "v"+c.text(19)))
			continue
		}
		a.Events = append(a.Events, wrote(int64(1+c.of(1<<30)), "v"+c.text(19), c.text(20)))
	}
	return a
}

func TestAnyAnswers(t *testing.T) {
	c := coin(11)
	for range 1000 {
		a := c.answer()
		if len(a.Entries) > most || len(a.Events) > most {
			askNone(t, "too many", a)
			continue
		}
		askBack(t, a)
	}
}

func TestAnyBytes(t *testing.T) {
	for _, b := range [][]byte{nil, {}, {0}, {1}, make([]byte, 8), make([]byte, 56), make([]byte, 4000), bytes.Repeat([]byte{0xff}, 4000), make([]byte, 1<<20), bytes.Repeat([]byte{1}, 1<<20), bytes.Repeat([]byte{0, 0, 0, 0, 0, 0, 0, 1}, 1<<17)} {
		askNot(t, "any bytes", b)
	}
	c := coin(7)
	for range 20000 {
		b := make([]byte, c.of(300))
		for k := range b {
			// Zeros more often, so that it gets on to the lists.
			if c.of(3) == 0 {
				b[k] = byte(c.of(256))
			}
		}
		askAny(t, fmt.Sprint(b), b)
	}
	taken := 0
	for range 50000 {
		parts := []any{c.of(9), c.of(3), c.of(6), c.of(12), c.of(3)}
		for range c.of(16) {
			parts = append(parts, c.of(3))
			if c.of(4) == 0 {
				parts = append(parts, "ab"[:c.of(3)])
			}
		}
		if askAny(t, fmt.Sprint(parts), bytesOf(parts...)) {
			taken++
		}
	}
	if taken == 0 {
		t.Error("P9.1: Get took none of any bytes")
	}
	base := reply.Put(with(entries(4), events(6)...))
	for range 20000 {
		b := bytes.Clone(base)
		for range 1 + c.of(3) {
			b[c.of(len(b))] ^= 1 << c.of(8)
		}
		askAny(t, fmt.Sprint(b), b)
	}
}

func FuzzAnyBytes(f *testing.F) {
	for _, b := range written() {
		f.Add(b)
	}
	f.Fuzz(func(t *testing.T, b []byte) { askAny(t, "bytes", b) })
}
