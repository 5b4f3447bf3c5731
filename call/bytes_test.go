package call_test

import (
	"bytes"
	"encoding/binary"
	"fmt"
	"math"
	"slices"
	"strings"
	"testing"

	"interrex/api"
	"interrex/call"
)

// written are the bytes of calls of each Kind.
func written() map[string][]byte {
	return map[string][]byte{
		"a CGet's": call.Put(get("p/a")), "a CGet's of a long Key": call.Put(with(7, 1<<40, get(key20))), "a CList's": call.Put(list()), "a CWatch's": call.Put(watch(0)), "a far CWatch's": call.Put(watch(mostRev)),
		"an empty CTxn's": call.Put(txn(nil)), "guards'": call.Put(txn(guards(3))), "writes'": call.Put(txn(nil, put("a", "v"), gone("b"), put("c", ""))),
		"an ordinary CTxn's": call.Put(txn([]api.Guard{at("p/a", 4), under("p/", 9)}, put("p/a", "bound"), gone("p/b"))), "a CTxn's of a great many": call.Put(txn(guards(20), writes(64)...)),
	}
}

// few is up to how many bytes each one is asked in all ways.
const few = 1000

func TestCutOff(t *testing.T) {
	for what, b := range written() {
		for n := range b {
			askNot(t, fmt.Sprint(what, " up to ", n), b[:n])
			// With what was cut off in the spare room, and without.
			askNot(t, fmt.Sprint(what, " up to ", n), bytes.Clone(b[:n]))
			if n > 0 {
				askAny(t, fmt.Sprint(what, " from ", n, " on"), b[n:])
			}
		}
	}
	b := call.Put(greatest())
	for n := 0; n < len(b); n += 1 + n%97 {
		askNot(t, fmt.Sprint("the greatest one's up to ", n), b[:n])
	}
	for n := range 5000 {
		askNot(t, fmt.Sprint("the greatest one's but the last ", n+1), b[:len(b)-n-1])
	}
}

func TestMoreBytes(t *testing.T) {
	all := written()
	all["the greatest one's"] = call.Put(greatest())
	for what, b := range all {
		for c := range 256 {
			askNot(t, what+" with a byte behind them", append(bytes.Clone(b), byte(c)))
			askNot(t, what+" with a word behind them", append(bytes.Clone(b), 0, 0, 0, 0, 0, 0, 0, byte(c)))
			if len(b) < few {
				askAny(t, what+" with a byte ahead of them", append([]byte{byte(c)}, b...))
			}
		}
		askNot(t, what+" twice", append(bytes.Clone(b), b...))
		askNot(t, what+" with many behind them", append(bytes.Clone(b), make([]byte, 5000)...))
		if len(b) > few {
			continue
		}
		for k := range b {
			askAny(t, fmt.Sprint(what, " with a byte at ", k), slices.Insert(bytes.Clone(b), k, 0))
			askAny(t, fmt.Sprint(what, " without that at ", k), slices.Delete(bytes.Clone(b), k, k+1))
		}
	}
}

// askTurned asks b, the bytes of c, with another one at k.
func askTurned(t *testing.T, what string, c api.Call, b []byte, k int, other byte) {
	t.Helper()
	was := b[k]
	b[k] = other
	what = fmt.Sprint(what, " with ", other, " at ", k)
	if askAny(t, what, b) {
		if d, _ := call.Get(b); call.Eq(c, d) {
			t.Errorf("P8.1: Get makes the same of %s", what)
		}
	}
	b[k] = was
}

func TestEachByteTurned(t *testing.T) {
	for what, b := range written() {
		c, _ := call.Get(b)
		for k, was := range b {
			if len(b) > few {
				for bit := range 8 {
					askTurned(t, what, c, b, k, was^1<<bit)
				}
				continue
			}
			for other := range 256 {
				if byte(other) != was {
					askTurned(t, what, c, b, k, byte(other))
				}
			}
		}
	}
	c := greatest()
	b, x := call.Put(c), coin(3)
	for range 1000 {
		k := x.of(len(b))
		askTurned(t, "the greatest one's", c, b, k, b[k]^1<<x.of(8))
	}
}

// text is one as it is written: how many bytes it has, and these.
func text(s string) []any { return []any{len(s), s} }

// join is all of what xs say, one behind the other.
func join(xs ...any) []any {
	var all []any
	for _, x := range xs {
		if l, ok := x.([]any); ok {
			all = append(all, join(l...)...)
			continue
		}
		all = append(all, x)
	}
	return all
}

// bytesOf are the bytes of these numbers and texts.
func bytesOf(xs ...any) []byte {
	var b []byte
	for _, x := range join(xs...) {
		switch x := x.(type) {
		case int:
			b = binary.BigEndian.AppendUint64(b, uint64(x))
		case uint64:
			b = binary.BigEndian.AppendUint64(b, x)
		case string:
			b = append(b, x...)
		}
	}
	return b
}

// parted is an ordinary CTxn, and its parts as they are written.
func parted() (api.Call, []any) {
	c := with(2, 9, txn([]api.Guard{at("l", 4), under("p/", 0)}, put("p/a", "bound"), gone("q"), put("r", "")))
	return c, join(2, 9, api.CTxn, text(""), 0, 2, text("l"), 4, 0, text("p/"), 0, 1, 3, text("p/a"), text("bound"), 0, text("q"), text(""), 1, text("r"), text(""), 0)
}

func TestEachNumberTurned(t *testing.T) {
	c, parts := parted()
	if b := bytesOf(parts...); !bytes.Equal(b, call.Put(c)) {
		t.Fatalf("P8.1: the bytes of %s are %v; not %v", short(c), call.Put(c), b)
	}
	for k, part := range parts {
		was, ok := part.(int)
		if !ok {
			continue
		}
		for _, x := range []uint64{
			0, 1, 2, 3, 4, 5, 6, 7, 8, 9, 19, 20, 21, 22, 63, 64, 65, 66, 255, 256, 3999, 4000, 4001, 1 << 16, 1<<31 - 1, 1 << 31, 1<<32 - 1, 1 << 32, 1<<32 + 1, 1<<40 - 1, 1 << 40, 1<<40 + 1,
			1 << 56, 1 << 59, 1 << 60, 1 << 61, 1 << 62, 1<<63 - 1, 1 << 63, 1<<63 + 1, math.MaxUint64 - 7, math.MaxUint64 - 1, math.MaxUint64,
			uint64(was) + 1, uint64(was) - 1, uint64(was) + 1<<8, uint64(was) + 1<<16, uint64(was) + 1<<32, uint64(was) + 1<<63, -uint64(was),
		} {
			turned := slices.Clone(parts)
			turned[k] = x
			what := fmt.Sprint("the number ", x, " at ", k)
			if !askAny(t, what, bytesOf(turned...)) {
				continue
			}
			if d, _ := call.Get(bytesOf(turned...)); call.Eq(c, d) != (x == uint64(was)) {
				t.Errorf("P8.1: Get makes %s of %s", short(d), what)
			}
		}
	}
}

func TestNumbersThatPromiseMore(t *testing.T) {
	head := func(kind int) []any { return []any{2, 9, kind} }
	more := []uint64{1, 2, 7, 8, 9, 19, 20, 21, 63, 64, 65, 255, 256, 4000, 4001, 1 << 31, 1 << 32, 1 << 40, 1 << 61, 1 << 62, 1<<63 - 1, 1 << 63, math.MaxUint64 - 8, math.MaxUint64}
	for _, n := range more {
		for what, b := range map[string][]byte{
			"a Key's": bytesOf(head(api.CGet), n), "a Key's, and nothing but what follows it": bytesOf(head(api.CGet), n, 0, 0, 0),
			"guards": bytesOf(head(api.CTxn), 0, 0, n), "guards, and no writes": bytesOf(head(api.CTxn), 0, 0, n, 0), "guards behind one": bytesOf(head(api.CTxn), 0, 0, n, text("a"), 1),
			"writes": bytesOf(head(api.CTxn), 0, 0, 0, n), "writes behind one": bytesOf(head(api.CTxn), 0, 0, 0, n, text("a"), text("v")),
			"a guard's Key's": bytesOf(head(api.CTxn), 0, 0, 1, n), "a write's Key's": bytesOf(head(api.CTxn), 0, 0, 0, 1, n), "a Val's": bytesOf(head(api.CTxn), 0, 0, 0, 1, text("a"), n),
		} {
			askNot(t, fmt.Sprint(what, " bytes that promise ", n, ", with nothing behind them"), b)
			askNot(t, fmt.Sprint(what, " bytes that promise ", n, ", with some behind them"), append(b, 0, 0, 0))
		}
	}
	for _, n := range more[5:] {
		long := bytesOf(head(api.CTxn), 0, 0, n, make([]byte, 0), strings.Repeat("\x00", 1<<16))
		askNot(t, fmt.Sprint(n, " guards of zeros"), long)
		askNot(t, fmt.Sprint(n, " writes of zeros"), bytesOf(head(api.CTxn), 0, 0, 0, n, strings.Repeat("\x00", 1<<16)))
	}
}

func TestMoreThanMayBe(t *testing.T) {
	// All as it should be, but for what is beyond; and the same, just not beyond.
	ofTxn := func(gs, ws []any) []byte { return bytesOf(2, 9, api.CTxn, 0, 0, gs, ws) }
	guard := func(key string, rev any) []any { return []any{text(key), rev, 0} }
	write := func(key, val string, goes int) []any { return []any{text(key), text(val), goes} }
	several := func(n int, x []any) []any { return []any{n, slices.Repeat([]any{x}, n)} }
	noGuards, noWrites := []any{0}, []any{0}
	long := strings.Repeat("k", 5000)
	for _, x := range []struct {
		what string
		b    []byte
		want bool
	}{
		{"20 guards", ofTxn(several(20, guard("a", 1)), noWrites), true}, {"21 guards", ofTxn(several(21, guard("a", 1)), noWrites), false}, {"64 guards", ofTxn(several(64, guard("a", 1)), noWrites), false},
		{"64 writes", ofTxn(noGuards, several(64, write("a", "v", 0))), true}, {"65 writes", ofTxn(noGuards, several(65, write("a", "v", 0))), false}, {"300 writes", ofTxn(noGuards, several(300, write("a", "v", 1))), false},
		{"a Key of 20 bytes", bytesOf(2, 9, api.CGet, text(long[:20]), 0, 0, 0), true}, {"a Key of 21 bytes", bytesOf(2, 9, api.CGet, text(long[:21]), 0, 0, 0), false}, {"a Key of none", bytesOf(2, 9, api.CGet, text(""), 0, 0, 0), false},
		{"a guard's Key of 20 bytes", ofTxn(several(1, guard(long[:20], 1)), noWrites), true}, {"a guard's Key of 21 bytes", ofTxn(several(1, guard(long[:21], 1)), noWrites), false}, {"a guard's Key of none", ofTxn(several(1, guard("", 1)), noWrites), false},
		{"a write's Key of 20 bytes", ofTxn(noGuards, several(1, write(long[:20], "", 0))), true}, {"a write's Key of 21 bytes", ofTxn(noGuards, several(1, write(long[:21], "", 0))), false}, {"a write's Key of none", ofTxn(noGuards, several(1, write("", "v", 0))), false},
		{"a Val of 4000 bytes", ofTxn(noGuards, several(1, write("a", long[:4000], 0))), true}, {"a Val of 4001 bytes", ofTxn(noGuards, several(1, write("a", long[:4001], 0))), false}, {"a Gone one's Val of 4001 bytes", ofTxn(noGuards, several(1, write("a", long[:4001], 1))), false},
		{"a guard's Rev 2^40", ofTxn(several(1, guard("a", 1<<40)), noWrites), true}, {"a guard's Rev 2^40 + 1", ofTxn(several(1, guard("a", 1<<40+1)), noWrites), false}, {"a guard's Rev -1", ofTxn(several(1, guard("a", -1)), noWrites), false},
		{"a Rev 2^40", bytesOf(2, 9, api.CWatch, 0, 1<<40, 0, 0), true}, {"a Rev 2^40 + 1", bytesOf(2, 9, api.CWatch, 0, 1<<40+1, 0, 0), false}, {"a Rev -1", bytesOf(2, 9, api.CWatch, 0, -1, 0, 0), false},
		{"From 7", bytesOf(7, 9, api.CList, 0, 0, 0, 0), true}, {"From 8", bytesOf(8, 9, api.CList, 0, 0, 0, 0), false}, {"From -1", bytesOf(-1, 9, api.CList, 0, 0, 0, 0), false}, {"From 2^32", bytesOf(1<<32, 9, api.CList, 0, 0, 0, 0), false},
		{"Id 0", bytesOf(2, 0, api.CList, 0, 0, 0, 0), false}, {"Id -1", bytesOf(2, -1, api.CList, 0, 0, 0, 0), false}, {"Id 2^40", bytesOf(2, 1<<40, api.CList, 0, 0, 0, 0), true}, {"Id 2^40 + 1", bytesOf(2, 1<<40+1, api.CList, 0, 0, 0, 0), false},
		{"Kind 0", bytesOf(2, 9, 0, 0, 0, 0, 0), false}, {"Kind 5", bytesOf(2, 9, 5, 0, 0, 0, 0), false}, {"Kind -1", bytesOf(2, 9, -1, 0, 0, 0, 0), false}, {"Kind 2^32 + 2", bytesOf(2, 9, 1<<32+2, 0, 0, 0, 0), false},
		{"a Key of a CList", bytesOf(2, 9, api.CList, text("a"), 0, 0, 0), false}, {"a Rev of a CList", bytesOf(2, 9, api.CList, 0, 1, 0, 0), false}, {"a guard of a CList", bytesOf(2, 9, api.CList, 0, 0, 1, guard("a", 1), 0), false}, {"a write of a CList", bytesOf(2, 9, api.CList, 0, 0, 0, 1, write("a", "v", 0)), false},
		{"a Rev of a CGet", bytesOf(2, 9, api.CGet, text("a"), 1, 0, 0), false}, {"a Key of a CWatch", bytesOf(2, 9, api.CWatch, text("a"), 1, 0, 0), false}, {"a Key of a CTxn", bytesOf(2, 9, api.CTxn, text("a"), 0, 0, 0), false}, {"a Rev of a CTxn", bytesOf(2, 9, api.CTxn, 0, 1, 0, 0), false},
	} {
		if askAny(t, x.what, x.b) != x.want {
			t.Errorf("P8.1: Get of bytes with %s is not %v", x.what, x.want)
		}
	}
	for flag := range 300 {
		under := bytesOf(2, 9, api.CTxn, 0, 0, 1, text("a"), 1, flag, 0)
		goes := bytesOf(2, 9, api.CTxn, 0, 0, 0, 1, text("a"), text("v"), flag)
		if askAny(t, "a guard", under) != (flag < 2) || askAny(t, "a write", goes) != (flag < 2) {
			t.Errorf("P8.1: Get of bytes with Under or Gone %d", flag)
		}
	}
}

// coin throws numbers, always the same ones.
type coin uint64

// of is a number from 0 to k less one.
func (c *coin) of(k int) int {
	*c = *c*6364136223846793005 + 1442695040888963407
	return int(*c>>33) % k
}

// text is a text of at most that many bytes.
func (c *coin) text(most int) string {
	b := make([]byte, c.of(most+1))
	for k := range b {
		b[k] = byte(c.of(256))
	}
	return string(b)
}

// txn is a call of CTxn; it may be, but where a Key happens to be empty.
func (c *coin) txn() api.Call {
	var gs []api.Guard
	for range c.of(22) {
		gs = append(gs, api.Guard{Key: "g" + c.text(19), Rev: int64(c.of(1 << 30)), Under: c.of(2) == 0})
	}
	var ws []api.Write
	for range c.of(67) {
		ws = append(ws, api.Write{Key: "w" + c.text(19), Val: []byte(c.text(30)), Gone: c.of(2) == 0})
	}
	return with(c.of(8), int64(1+c.of(1<<30)), txn(gs, ws...))
}

func TestAnyCalls(t *testing.T) {
	c := coin(11)
	for range 3000 {
		x := c.txn()
		if len(x.Txn.Guards) > api.MaxGuards || len(x.Txn.Writes) > api.MaxWrites {
			askNone(t, "too many", x)
			continue
		}
		askBack(t, x)
	}
}

func TestAnyBytes(t *testing.T) {
	for _, b := range [][]byte{nil, {}, {0}, {1}, make([]byte, 8), make([]byte, 56), make([]byte, 4000), bytes.Repeat([]byte{0xff}, 4000), make([]byte, 1<<20), bytes.Repeat([]byte{1}, 1<<20), bytes.Repeat([]byte{0, 0, 0, 0, 0, 0, 0, 1}, 1<<17)} {
		askNot(t, "any bytes", b)
	}
	c := coin(7)
	for range 20000 {
		b := make([]byte, c.of(300))
		for k := range b {
			// Zeros more often, so that it gets on to the lists.
			if c.of(3) == 0 {
				b[k] = byte(c.of(256))
			}
		}
		askAny(t, fmt.Sprint(b), b)
	}
	taken := 0
	for range 50000 {
		parts := []any{c.of(9), c.of(3), c.of(6)}
		for range c.of(16) {
			parts = append(parts, c.of(3))
			if c.of(4) == 0 {
				parts = append(parts, "ab"[:c.of(3)])
			}
		}
		if askAny(t, fmt.Sprint(parts), bytesOf(parts...)) {
			taken++
		}
	}
	if taken == 0 {
		t.Error("P8.1: Get took none of any bytes")
	}
	base := call.Put(txn(guards(3), writes(5)...))
	for range 20000 {
		b := bytes.Clone(base)
		for range 1 + c.of(3) {
			b[c.of(len(b))] ^= 1 << c.of(8)
		}
		askAny(t, fmt.Sprint(b), b)
	}
}

func FuzzAnyBytes(f *testing.F) {
	for _, b := range written() {
		f.Add(b)
	}
	f.Fuzz(func(t *testing.T, b []byte) { askAny(t, "bytes", b) })
}
