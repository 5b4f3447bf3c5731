package label_test

import (
	"math"
	"slices"
	"strings"
	"testing"

	"interrex/api"
	"interrex/label"
)

// letters are all bytes that a name may have.
const letters = "abcdefghijklmnopqrstuvwxyz0123456789-"

// pairs are labels of these keys, each of the Val v.
func pairs(keys ...string) []api.Pair {
	var l []api.Pair
	for _, key := range keys {
		l = append(l, api.Pair{Key: key, Val: "v"})
	}
	return l
}

// term is a term of the Key k.
func term(kind int, vals ...string) api.Term {
	return api.Term{Key: "k", Kind: kind, Vals: vals}
}

func TestNameLength(t *testing.T) {
	for n := range 100 {
		if got := label.Name(strings.Repeat("a", n)); got != (n >= 1 && n <= 12) {
			t.Errorf("P2.1: Name of %d bytes = %v", n, got)
		}
	}
	if label.Name(strings.Repeat("a", 1<<20)) {
		t.Error("P2.1: Name of 2^20 bytes")
	}
	// 2 and 12 runes of two bytes each.
	if label.Name("äö") || label.Name(strings.Repeat("ä", 12)) {
		t.Error("P2.1: Name of runes beyond a byte")
	}
}

func TestNameBytes(t *testing.T) {
	for c := range 256 {
		// By a byte slice: string(rune(c)) would make two bytes from 128 on.
		one := string([]byte{byte(c)})
		want := strings.Contains(letters, one)
		for _, s := range []string{one, one + "a", "a" + one, "a" + one + "a", "abcdefghijk" + one, one + "abcdefghijk", "abcde" + one + "ghijkl"} {
			if got := label.Name(s); got != want {
				t.Errorf("P2.1: Name(%q) = %v", s, got)
			}
		}
	}
}

func TestNameOrdinary(t *testing.T) {
	for _, s := range []string{"web", "web-1", "-", "---", "0", "007", "-a", "a-", "abcdefghijkl", "------------"} {
		if !label.Name(s) {
			t.Errorf("P2.1: Name(%q) = false", s)
		}
	}
	// Just outside a to z, 0 to 9, `-`.
	for _, s := range []string{"`", "{", "/", ":", ",", ".", "A", "Z", "_", " ", "web 1", "Web", "a\x00", "a\n", "\xff", "\xc3\xa4", "abcdefghijk."} {
		if label.Name(s) {
			t.Errorf("P2.1: Name(%q) = true", s)
		}
	}
}

func TestMayOrder(t *testing.T) {
	for _, x := range []struct {
		keys []string
		want bool
	}{
		{nil, true}, {[]string{}, true}, {[]string{"a"}, true}, {[]string{"a", "b"}, true},
		{[]string{"b", "a"}, false}, {[]string{"a", "a"}, false},
		{[]string{"a", "b", "b"}, false}, {[]string{"a", "a", "b"}, false}, {[]string{"a", "b", "a"}, false}, {[]string{"a", "c", "b"}, false},
		{[]string{"b", "c", "a"}, false}, {[]string{"b", "a", "c"}, false},
		// By bytes: `-` is below the digits, these are below the letters, and a beginning is below what goes on.
		{[]string{"-", "0", "9", "a", "z"}, true}, {[]string{"0", "-"}, false}, {[]string{"a", "9"}, false},
		{[]string{"a", "a-", "a0", "aa", "ab", "b"}, true}, {[]string{"aa", "a"}, false}, {[]string{"a10", "a9"}, true}, {[]string{"a9", "a10"}, false},
	} {
		if got := label.May(pairs(x.keys...)); got != x.want {
			t.Errorf("P2.1: May of %q = %v", x.keys, got)
		}
	}
	if !label.May([]api.Pair{}) {
		t.Error("P0.4: May of an empty list")
	}
}

func TestMayLength(t *testing.T) {
	keys := strings.Split("a b c d e f g h", " ")
	for n := range len(keys) + 1 {
		if got := label.May(pairs(keys[:n]...)); got != (n <= 6) {
			t.Errorf("P2.1: May of %d labels = %v", n, got)
		}
	}
	if label.May(make([]api.Pair, 1<<20)) {
		t.Error("P2.1: May of 2^20 labels")
	}
}

func TestMayNames(t *testing.T) {
	for _, x := range []struct {
		text string
		want bool
	}{
		{"m", true}, {"mnopqrstuvwx", true}, {"mnopqrstuvwxy", false}, {"", false}, {"m.", false}, {"mM", false}, {"m\xff", false}, {"m`", false}, {"m{", false}, {"m/", false}, {"m:", false},
	} {
		for k, key := range []string{"a", "m", "z"} {
			l := pairs("a", "m", "z")
			l[k].Val = x.text
			if got := label.May(l); got != x.want {
				t.Errorf("P2.1: May with the Val %q of %q = %v", x.text, key, got)
			}
		}
		// It stands at its place among these, as long as it begins with m.
		if got := label.May(pairs("a", x.text, "z")); got != x.want {
			t.Errorf("P2.1: May with the Key %q = %v", x.text, got)
		}
		if got := label.May(pairs(x.text)); got != x.want {
			t.Errorf("P2.1: May of the Key %q = %v", x.text, got)
		}
	}
	// Vals need not rise, and may be alike.
	if !label.May([]api.Pair{{Key: "a", Val: "z"}, {Key: "b", Val: "c"}, {Key: "c", Val: "c"}}) {
		t.Error("P2.1: May asks an order of Vals")
	}
}

func TestGet(t *testing.T) {
	l := []api.Pair{{Key: "b", Val: "1"}, {Key: "a", Val: "2"}, {Key: "b", Val: "3"}, {Key: "B", Val: "4"}, {Key: "e", Val: ""}, {Key: "e", Val: "5"}, {Key: "1", Val: "c"}}
	for _, x := range []struct {
		key, val string
		ok       bool
	}{
		{"a", "2", true}, {"b", "1", true}, {"B", "4", true}, {"1", "c", true}, {"e", "", true},
		{"c", "", false}, {"", "", false}, {"A", "", false}, {"ab", "", false}, {"2", "", false}, {"\xff", "", false},
	} {
		if val, ok := label.Get(l, x.key); val != x.val || ok != x.ok {
			t.Errorf("P2.1: Get %q = %q, %v", x.key, val, ok)
		}
	}
	for _, none := range [][]api.Pair{nil, {}} {
		if val, ok := label.Get(none, ""); val != "" || ok {
			t.Errorf("P2.1: Get of none = %q, %v", val, ok)
		}
	}
	// Such a Key is no name, but it is there.
	if val, ok := label.Get([]api.Pair{{Key: "", Val: "x"}}, ""); val != "x" || !ok {
		t.Errorf("P2.1: Get of the Key \"\" = %q, %v", val, ok)
	}
}

func TestGetOfMany(t *testing.T) {
	l := append(make([]api.Pair, 100000), api.Pair{Key: "k", Val: "v"}, api.Pair{Key: "k", Val: "w"})
	if val, ok := label.Get(l, "k"); val != "v" || !ok {
		t.Errorf("P2.1: Get = %q, %v", val, ok)
	}
	if val, ok := label.Get(l, "none"); val != "" || ok {
		t.Errorf("P2.1: Get = %q, %v", val, ok)
	}
}

func TestMayTermsLength(t *testing.T) {
	for n := range 10 {
		// One term n times: no order is asked, and no other Keys.
		if got := label.MayTerms(slices.Repeat([]api.Term{term(api.Exists)}, n)); got != (n <= 6) {
			t.Errorf("P2.1: MayTerms of %d = %v", n, got)
		}
	}
	if !label.MayTerms(nil) || !label.MayTerms([]api.Term{}) {
		t.Error("P2.1: MayTerms of none")
	}
	if label.MayTerms(slices.Repeat([]api.Term{term(api.Exists)}, 1<<20)) {
		t.Error("P2.1: MayTerms of 2^20")
	}
	if !label.MayTerms([]api.Term{{Key: "z", Kind: api.Exists}, {Key: "a", Kind: api.Absent}, {Key: "m", Kind: api.In, Vals: []string{"v"}}}) {
		t.Error("P2.1: MayTerms asks an order of Keys")
	}
}

func TestMayTermsKinds(t *testing.T) {
	vals := strings.Split("a b c d e f g h", " ")
	for _, kind := range []int{math.MinInt, -4, -3, -2, -1, 0, 1, 2, 3, 4, 5, 6, 7, 1 << 32, 1<<32 + 1, math.MaxInt} {
		for n := range len(vals) + 1 {
			want := false
			switch kind {
			case api.In, api.NotIn:
				want = n >= 1 && n <= 6
			case api.Exists, api.Absent:
				want = n == 0
			}
			if got := label.MayTerms([]api.Term{term(kind, vals[:n]...)}); got != want {
				t.Errorf("P2.1: MayTerms of Kind %d with %d Vals = %v", kind, n, got)
			}
		}
		if label.MayTerms([]api.Term{term(kind, make([]string, 1<<16)...)}) {
			t.Errorf("P2.1: MayTerms of Kind %d with 2^16 Vals", kind)
		}
	}
	for _, kind := range []int{api.Exists, api.Absent} {
		if !label.MayTerms([]api.Term{{Key: "k", Kind: kind, Vals: []string{}}}) {
			t.Errorf("P0.4: MayTerms of Kind %d with an empty list", kind)
		}
	}
}

func TestMayTermsNames(t *testing.T) {
	for _, x := range []struct {
		text string
		want bool
	}{
		{"m", true}, {"mnopqrstuvwx", true}, {"mnopqrstuvwxy", false}, {"", false}, {"m.", false}, {"mM", false}, {"m\xff", false}, {"m`", false}, {"m{", false}, {"m/", false}, {"m:", false},
	} {
		for _, kind := range []int{api.In, api.NotIn} {
			for k := range 6 {
				vals := slices.Repeat([]string{"v"}, 6)
				vals[k] = x.text
				if got := label.MayTerms([]api.Term{term(kind, vals...)}); got != x.want {
					t.Errorf("P2.1: MayTerms of Kind %d with the Vals %q = %v", kind, vals, got)
				}
			}
			if got := label.MayTerms([]api.Term{{Key: x.text, Kind: kind, Vals: []string{"v"}}}); got != x.want {
				t.Errorf("P2.1: MayTerms of Kind %d with the Key %q = %v", kind, x.text, got)
			}
		}
		for _, kind := range []int{api.Exists, api.Absent} {
			if got := label.MayTerms([]api.Term{{Key: x.text, Kind: kind}}); got != x.want {
				t.Errorf("P2.1: MayTerms of Kind %d with the Key %q = %v", kind, x.text, got)
			}
		}
	}
}

func TestMayTermsAsksEach(t *testing.T) {
	for k := range 6 {
		for _, bad := range []api.Term{{}, term(0), term(5), term(api.In), term(api.NotIn, ""), term(api.Exists, "v"), {Key: "K", Kind: api.Absent}} {
			ts := slices.Repeat([]api.Term{term(api.In, "v")}, 6)
			ts[k] = bad
			if label.MayTerms(ts) {
				t.Errorf("P2.1: MayTerms with %v at %d", bad, k)
			}
		}
	}
}

func TestMatchOneTerm(t *testing.T) {
	here := []api.Pair{{Key: "j", Val: "w"}, {Key: "k", Val: "v"}}
	blank := []api.Pair{{Key: "k", Val: ""}}
	for _, x := range []struct {
		t    api.Term
		l    []api.Pair
		want bool
	}{
		{term(api.In, "v"), here, true}, {term(api.In, "v", "w"), here, true}, {term(api.In, "u", "t", "v"), here, true}, {term(api.In, "u"), here, false}, {term(api.In, "w"), here, false}, {term(api.In, "V", "vv", ""), here, false}, {term(api.In), here, false},
		{term(api.In, "v"), nil, false}, {term(api.In, ""), nil, false}, {term(api.In), nil, false}, {term(api.In, ""), blank, true}, {term(api.In, "v"), blank, false},
		{term(api.NotIn, "v"), here, false}, {term(api.NotIn, "v", "w"), here, false}, {term(api.NotIn, "u", "t", "v"), here, false}, {term(api.NotIn, "u"), here, true}, {term(api.NotIn, "w"), here, true}, {term(api.NotIn, "V", "vv", ""), here, true}, {term(api.NotIn), here, true},
		{term(api.NotIn, "v"), nil, true}, {term(api.NotIn, ""), nil, true}, {term(api.NotIn), nil, true}, {term(api.NotIn, ""), blank, false}, {term(api.NotIn, "v"), blank, true},
		{term(api.Exists), here, true}, {term(api.Exists), blank, true}, {term(api.Exists), nil, false}, {term(api.Exists), pairs("j", "l"), false},
		{term(api.Absent), here, false}, {term(api.Absent), blank, false}, {term(api.Absent), nil, true}, {term(api.Absent), pairs("j", "l"), true},
		// Exists and Absent do not ask their Vals.
		{term(api.Exists, "u"), here, true}, {term(api.Exists, "v"), nil, false}, {term(api.Absent, "u"), here, false}, {term(api.Absent, "v"), nil, true},
		// The first one of a Key counts.
		{term(api.In, "v"), []api.Pair{{Key: "k", Val: "u"}, {Key: "k", Val: "v"}}, false}, {term(api.In, "u"), []api.Pair{{Key: "k", Val: "u"}, {Key: "k", Val: "v"}}, true}, {term(api.NotIn, "v"), []api.Pair{{Key: "k", Val: "u"}, {Key: "k", Val: "v"}}, true},
		// A Key that is no name is asked like any other.
		{api.Term{Kind: api.Exists}, []api.Pair{{Val: "v"}}, true}, {api.Term{Kind: api.Exists}, here, false}, {api.Term{Kind: api.Absent}, here, true}, {api.Term{Key: "K", Kind: api.Exists}, here, false},
	} {
		if got := label.Match([]api.Term{x.t}, x.l); got != x.want {
			t.Errorf("P2.1: Match of %v and %v = %v", x.t, x.l, got)
		}
	}
}

func TestMatchOtherKinds(t *testing.T) {
	for _, kind := range []int{math.MinInt, -4, -3, -2, -1, 0, 5, 6, 7, 8, 1<<32 + 1, math.MaxInt} {
		for _, vals := range [][]string{nil, {"v"}, {"u"}} {
			for _, l := range [][]api.Pair{nil, pairs("k"), pairs("j")} {
				if label.Match([]api.Term{term(kind, vals...)}, l) {
					t.Errorf("P2.1: Match of Kind %d with %q and %v", kind, vals, l)
				}
			}
		}
	}
}

func TestMatchAsksEach(t *testing.T) {
	l := pairs("j", "k", "l")
	for _, none := range [][]api.Term{nil, {}} {
		if !label.Match(none, l) || !label.Match(none, nil) || !label.Match(none, []api.Pair{}) {
			t.Error("P2.1: Match of no terms")
		}
	}
	good := []api.Term{{Key: "j", Kind: api.In, Vals: []string{"v"}}, {Key: "k", Kind: api.NotIn, Vals: []string{"w"}}, {Key: "l", Kind: api.Exists}, {Key: "m", Kind: api.Absent}, {Key: "m", Kind: api.NotIn, Vals: []string{"v"}}, {Key: "k", Kind: api.Exists}, {Key: "k", Kind: api.In, Vals: []string{"u", "v"}}}
	if !label.Match(good, l) {
		t.Error("P2.1: Match of what holds")
	}
	for k := range good {
		for _, bad := range []api.Term{{}, term(api.In, "w"), term(api.NotIn, "v"), term(api.Absent), {Key: "m", Kind: api.Exists}, {Key: "k", Kind: 5}} {
			ts := slices.Clone(good)
			ts[k] = bad
			if label.Match(ts, l) {
				t.Errorf("P2.1: Match with %v at %d", bad, k)
			}
		}
	}
	// Two terms of one Key are both asked.
	if label.Match([]api.Term{term(api.Exists), term(api.Absent)}, l) || label.Match([]api.Term{term(api.Exists), term(api.Absent)}, nil) {
		t.Error("P2.1: Match of what can't be")
	}
}

func TestMatchOfMany(t *testing.T) {
	l := append(make([]api.Pair, 1000), api.Pair{Key: "k", Val: "v"})
	ts := slices.Repeat([]api.Term{term(api.In, append(slices.Repeat([]string{"u"}, 1000), "v")...)}, 1000)
	if !label.Match(ts, l) {
		t.Error("P2.1: Match of many that hold")
	}
	if label.Match(append(ts, term(api.Absent)), l) {
		t.Error("P2.1: Match of many, the last of which does not hold")
	}
}

func TestListsStay(t *testing.T) {
	vals := [4]string{"v", "u", "x", "y"}
	ls := [4]api.Pair{{Key: "k", Val: "v"}, {Key: "b", Val: "w"}, {Key: "z", Val: "x"}, {Key: "a", Val: "y"}}
	ts := [4]api.Term{{Key: "k", Kind: api.In, Vals: vals[:2]}, {Key: "b", Kind: api.Exists}, {Key: "z", Kind: api.NotIn, Vals: vals[:1]}, {Key: "a", Kind: api.Absent}}
	for n := range 5 {
		label.May(ls[:n])
		label.Get(ls[:n], "z")
		label.MayTerms(ts[:n])
		label.Match(ts[:n], ls[:n])
	}
	if vals != [4]string{"v", "u", "x", "y"} || ls != [4]api.Pair{{Key: "k", Val: "v"}, {Key: "b", Val: "w"}, {Key: "z", Val: "x"}, {Key: "a", Val: "y"}} {
		t.Errorf("P0.3: made %v, %v", vals, ls)
	}
	for k, want := range []api.Term{{Key: "k", Kind: api.In, Vals: []string{"v", "u"}}, {Key: "b", Kind: api.Exists}, {Key: "z", Kind: api.NotIn, Vals: []string{"v"}}, {Key: "a", Kind: api.Absent}} {
		if ts[k].Key != want.Key || ts[k].Kind != want.Kind || !slices.Equal(ts[k].Vals, want.Vals) {
			t.Errorf("P0.3: made %v of %v", ts[k], want)
		}
	}
}
