package call_test

import (
	"fmt"
	"math"
	"slices"
	"strings"
	"testing"

	"interrex/api"
)

// kinds are a call of each Kind that may be.
func kinds() []api.Call {
	return []api.Call{get("p/a"), list(), watch(9), txn([]api.Guard{at("l", 1)}, put("p/a", "v"))}
}

func TestFromAndId(t *testing.T) {
	for _, c := range kinds() {
		for _, from := range []int{0, 1, 6, 7} {
			for _, id := range []int64{1, 2, 1<<40 - 1, 1 << 40} {
				askBack(t, with(from, id, c))
			}
			for _, id := range []int64{0, -1, 1<<40 + 1, 1 << 41, -1 << 40, 1 << 62, math.MinInt64, math.MinInt64 + 1, math.MaxInt64} {
				askNone(t, "an Id beyond", with(from, id, c))
			}
		}
		for _, from := range []int{-1, 8, 9, 256, 1 << 32, 1<<32 + 7, -8, -256, math.MinInt, math.MinInt + 7, math.MaxInt} {
			askNone(t, "a From beyond", with(from, 1, c))
			askNone(t, "a From beyond", with(from, 0, c))
		}
	}
}

func TestKind(t *testing.T) {
	for _, c := range kinds() {
		for _, kind := range []int{0, -1, 5, 6, 255, 256 + api.CGet, 1<<32 + api.CList, -api.CWatch, math.MinInt, math.MaxInt} {
			d := c
			d.Kind = kind
			askNone(t, "no Kind", d)
			askNone(t, "no Kind", api.Call{From: 1, Id: 1, Kind: kind})
		}
	}
	askNone(t, "the zero call", api.Call{})
	// A call of one Kind under another one: only where what it has is named there, too.
	for _, c := range kinds() {
		for kind := api.CGet; kind <= api.CTxn; kind++ {
			d := c
			d.Kind = kind
			if kind == c.Kind || c.Kind == api.CList && kind != api.CGet {
				askBack(t, d)
				continue
			}
			askNone(t, fmt.Sprint("Kind ", kind, " of a call of Kind ", c.Kind), d)
		}
	}
}

func TestWhatTheKindDoesNotName(t *testing.T) {
	none := txn([]api.Guard{})
	for _, c := range kinds() {
		for _, x := range []struct {
			what  string
			named bool
			do    func(c *api.Call)
		}{
			{"a Key", c.Kind == api.CGet, func(c *api.Call) { c.Key = "a" }},
			{"a Key of a zero byte", c.Kind == api.CGet, func(c *api.Call) { c.Key = "\x00" }},
			{"the Rev 1", c.Kind == api.CWatch, func(c *api.Call) { c.Rev = 1 }},
			{"the greatest Rev", c.Kind == api.CWatch, func(c *api.Call) { c.Rev = mostRev }},
			{"the Rev -1", false, func(c *api.Call) { c.Rev = -1 }},
			{"a guard", c.Kind == api.CTxn, func(c *api.Call) { c.Txn.Guards = []api.Guard{at("a", 1)} }},
			{"a write", c.Kind == api.CTxn, func(c *api.Call) { c.Txn.Writes = []api.Write{put("a", "v")} }},
			{"a zero guard", false, func(c *api.Call) { c.Txn.Guards = make([]api.Guard, 1) }},
			{"a zero write", false, func(c *api.Call) { c.Txn.Writes = make([]api.Write, 1) }},
			{"empty lists", true, func(c *api.Call) { c.Txn = none.Txn }},
		} {
			d := c
			x.do(&d)
			if x.named {
				askBack(t, d)
				continue
			}
			askNone(t, fmt.Sprint(x.what, " of a call of Kind ", c.Kind), d)
		}
	}
}

func TestKeys(t *testing.T) {
	wrong := []string{"", key20 + "1", strings.Repeat("\x00", 21), strings.Repeat("é", 11), strings.Repeat("k", 256), strings.Repeat("k", 276), strings.Repeat("k", 1<<16+1)}
	right := []string{"a", "\x00", "\xff", "\x80", "é", " ", "p/", key20, strings.Repeat("é", 10), strings.Repeat("\x00", 20), strings.Repeat("\xff", 20)}
	for k, keys := range [][]string{wrong, right} {
		for _, key := range keys {
			for what, c := range map[string]api.Call{
				"a CGet's":  get(key),
				"a guard's": txn([]api.Guard{at(key, 1)}), "an Under guard's": txn([]api.Guard{under(key, 1)}), "the last guard's": txn(append(guards(19), at(key, 1)), writes(64)...), "the first guard's": txn(append([]api.Guard{at(key, 0)}, guards(19)...)),
				"a write's": txn(nil, put(key, "v")), "a Gone one's": txn(nil, gone(key)), "the last write's": txn(guards(20), append(writes(63), put(key, ""))...), "the first write's": txn(nil, append([]api.Write{gone(key)}, writes(63)...)...),
			} {
				if k == 1 {
					askBack(t, c)
					continue
				}
				askNone(t, fmt.Sprintf("%s Key of %d bytes", what, len(key)), c)
			}
		}
	}
}

func TestRevs(t *testing.T) {
	for _, rev := range []int64{0, 1, 2, 1 << 32, mostRev - 1, mostRev} {
		askBack(t, watch(rev))
		askBack(t, txn([]api.Guard{at("a", rev)}))
		askBack(t, txn([]api.Guard{under("a", rev)}, gone("a")))
		askBack(t, txn(append(guards(19), at("a", rev)), writes(64)...))
	}
	for _, rev := range []int64{-1, -2, mostRev + 1, 1 << 41, -mostRev, 1 << 62, math.MinInt64, math.MinInt64 + 1, math.MaxInt64} {
		askNone(t, fmt.Sprint("Rev ", rev), watch(rev))
		askNone(t, fmt.Sprint("a guard's Rev ", rev), txn([]api.Guard{at("a", rev)}))
		askNone(t, fmt.Sprint("an Under guard's Rev ", rev), txn([]api.Guard{under("a", rev)}))
		askNone(t, fmt.Sprint("the last guard's Rev ", rev), txn(append(guards(19), at("a", rev)), writes(64)...))
		askNone(t, fmt.Sprint("the first guard's Rev ", rev), txn(append([]api.Guard{at("a", rev)}, guards(19)...)))
	}
}

func TestHowMany(t *testing.T) {
	askBack(t, txn(guards(20)))
	askBack(t, txn(nil, writes(64)...))
	askBack(t, txn(guards(20), writes(64)...))
	for _, n := range []int{21, 22, 64, 256, 276, 5000} {
		askNone(t, fmt.Sprint(n, " guards"), txn(guards(n)))
		askNone(t, fmt.Sprint(n, " guards"), txn(slices.Repeat([]api.Guard{at("a", 1)}, n), writes(64)...))
	}
	for _, n := range []int{65, 66, 256, 320, 5000} {
		askNone(t, fmt.Sprint(n, " writes"), txn(nil, slices.Repeat([]api.Write{gone("a")}, n)...))
		askNone(t, fmt.Sprint(n, " writes"), txn(guards(20), slices.Repeat([]api.Write{put("a", "v")}, n)...))
	}
}

func TestVals(t *testing.T) {
	for _, goes := range []bool{false, true} {
		for _, n := range []int{0, 1, 255, 256, 3999, 4000} {
			w := api.Write{Key: "a", Val: make([]byte, n), Gone: goes}
			askBack(t, txn(nil, w))
			askBack(t, txn(guards(20), append(writes(63), w)...))
		}
		for _, n := range []int{4001, 4002, 4096, 8000, 1<<16 + 1, 1 << 20} {
			w := api.Write{Key: "a", Val: make([]byte, n), Gone: goes}
			askNone(t, fmt.Sprint("a Val of ", n, " bytes"), txn(nil, w))
			askNone(t, fmt.Sprint("a last Val of ", n, " bytes"), txn(guards(20), append(writes(63), w)...))
			askNone(t, fmt.Sprint("a first Val of ", n, " bytes"), txn(nil, append([]api.Write{w}, writes(63)...)...))
		}
	}
	// As many bytes as may be in all.
	askBack(t, greatest())
}
