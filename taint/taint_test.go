package taint_test

import (
	"slices"
	"strings"
	"testing"

	"interrex/api"
	"interrex/taint"
)

// A text, and whether it is a name. Each one that is not empty begins with m.
var texts = []struct {
	text string
	name bool
}{
	{"m", true}, {"m-0", true}, {"mnopqrstuvwx", true}, {"mnopqrstuvwxy", false}, {"", false},
	{"m.", false}, {"mM", false}, {"m ", false}, {"m_", false}, {"m`", false}, {"m{", false}, {"m/", false}, {"m:", false}, {"m\x00", false}, {"m\xff", false}, {"mä", false},
	{"m" + strings.Repeat("n", 1<<16), false},
}

// taints are taints of these Keys, each of the Val v.
func taints(keys ...string) []api.Taint {
	var ts []api.Taint
	for _, key := range keys {
		ts = append(ts, api.Taint{Key: key, Val: "v"})
	}
	return ts
}

func TestMayOrder(t *testing.T) {
	for _, x := range []struct {
		keys []string
		want bool
	}{
		{nil, true}, {[]string{"a"}, true}, {[]string{"a", "b"}, true}, {[]string{"a", "b", "c"}, true},
		{[]string{"b", "a"}, false}, {[]string{"a", "c", "b"}, false}, {[]string{"b", "a", "c"}, false}, {[]string{"b", "c", "a"}, false},
		{[]string{"a", "a"}, false}, {[]string{"a", "a", "b"}, false}, {[]string{"a", "b", "b"}, false}, {[]string{"a", "b", "a"}, false},
		{[]string{"a", "b", "c", "d", "f", "e"}, false}, {[]string{"a", "b", "c", "d", "e", "e"}, false},
		// By bytes: `-` is below the digits, these are below the letters, and a beginning is below what goes on.
		{[]string{"-", "0", "9", "a", "z"}, true}, {[]string{"0", "-"}, false}, {[]string{"a", "9"}, false},
		{[]string{"a", "a-", "a0", "aa", "ab", "b"}, true}, {[]string{"aa", "a"}, false}, {[]string{"a10", "a9"}, true}, {[]string{"a9", "a10"}, false},
	} {
		if got := taint.May(taints(x.keys...)); got != x.want {
			t.Errorf("P3.1: May of %q = %v", x.keys, got)
		}
	}
	if !taint.May([]api.Taint{}) {
		t.Error("P0.4: May of an empty list")
	}
	// Vals need not rise, and may be alike; but they do not tell two of one Key apart.
	if !taint.May([]api.Taint{{Key: "a", Val: "z"}, {Key: "b", Val: "c"}, {Key: "c", Val: "c"}}) {
		t.Error("P3.1: May asks an order of Vals")
	}
	if taint.May([]api.Taint{{Key: "a", Val: "v"}, {Key: "a", Val: "w"}}) {
		t.Error("P3.1: May of one Key with two Vals")
	}
}

func TestMayLength(t *testing.T) {
	keys := strings.Split("a b c d e f g h", " ")
	for n := range len(keys) + 1 {
		if got := taint.May(taints(keys[:n]...)); got != (n <= 6) {
			t.Errorf("P3.1: May of %d taints = %v", n, got)
		}
	}
	if taint.May(make([]api.Taint, 1<<20)) {
		t.Error("P3.1: May of 2^20 taints")
	}
}

func TestMayNames(t *testing.T) {
	for _, x := range texts {
		for k, key := range []string{"a", "m", "z"} {
			ts := taints("a", "m", "z")
			ts[k].Val = x.text
			if got := taint.May(ts); got != x.name {
				t.Errorf("P3.1: May with the Val %.20q of %q = %v", x.text, key, got)
			}
		}
		if got := taint.May(taints("a", x.text, "z")); got != x.name {
			t.Errorf("P3.1: May with the Key %.20q = %v", x.text, got)
		}
		for _, ts := range [][]api.Taint{taints(x.text), taints(x.text, "z"), taints("a", x.text)} {
			if got := taint.May(ts); got != x.name {
				t.Errorf("P3.1: May with the Key %.20q among %d = %v", x.text, len(ts), got)
			}
		}
	}
}

func TestMayTolsOne(t *testing.T) {
	for _, key := range texts {
		for _, val := range texts {
			// Of one value: the Val is a name. Of Any value: it is "". Of both the Key is a name, or "" for any Key.
			mayKey := key.name || key.text == ""
			one := api.Toler{Key: key.text, Val: val.text}
			if got := taint.MayTols([]api.Toler{one}); got != (mayKey && val.name) {
				t.Errorf("P3.1: MayTols of %.40v = %v", one, got)
			}
			each := api.Toler{Key: key.text, Val: val.text, Any: true}
			if got := taint.MayTols([]api.Toler{each}); got != (mayKey && val.text == "") {
				t.Errorf("P3.1: MayTols of %.40v = %v", each, got)
			}
		}
	}
}

func TestMayTolsOrdinary(t *testing.T) {
	for _, x := range []struct {
		tol  api.Toler
		want bool
	}{
		{api.Toler{Key: "gpu", Val: "yes"}, true}, {api.Toler{Key: "gpu", Any: true}, true}, {api.Toler{Val: "yes"}, true}, {api.Toler{Any: true}, true},
		{api.Toler{Key: "gpu", Val: "yes", Any: true}, false}, {api.Toler{Val: "yes", Any: true}, false}, {api.Toler{Key: "gpu"}, false}, {api.Toler{}, false},
		{api.Toler{Key: "GPU", Any: true}, false}, {api.Toler{Key: "gpu", Val: "Yes"}, false}, {api.Toler{Key: "gpu", Val: "Yes", Any: true}, false},
		{api.Toler{Key: "abcdefghijkl", Val: "abcdefghijkl"}, true}, {api.Toler{Key: "abcdefghijklm", Val: "v"}, false}, {api.Toler{Key: "abcdefghijklm", Any: true}, false}, {api.Toler{Key: "k", Val: "abcdefghijklm"}, false},
	} {
		if got := taint.MayTols([]api.Toler{x.tol}); got != x.want {
			t.Errorf("P3.1: MayTols of %v = %v", x.tol, got)
		}
	}
}

func TestMayTolsLength(t *testing.T) {
	for _, tol := range []api.Toler{{Any: true}, {Key: "k", Any: true}, {Val: "v"}, {Key: "k", Val: "v"}} {
		for n := range 10 {
			// One toleration n times: no order is asked, and no other Keys.
			if got := taint.MayTols(slices.Repeat([]api.Toler{tol}, n)); got != (n <= 6) {
				t.Errorf("P3.1: MayTols of %d = %v", n, got)
			}
		}
	}
	if !taint.MayTols(nil) || !taint.MayTols([]api.Toler{}) {
		t.Error("P3.1: MayTols of none")
	}
	if taint.MayTols(slices.Repeat([]api.Toler{{Any: true}}, 1<<20)) {
		t.Error("P3.1: MayTols of 2^20")
	}
	if !taint.MayTols([]api.Toler{{Key: "z", Val: "v"}, {Key: "a", Any: true}, {Val: "w"}, {Key: "z", Val: "a"}, {Any: true}, {Key: "m", Any: true}}) {
		t.Error("P3.1: MayTols asks an order")
	}
}

func TestMayTolsAsksEach(t *testing.T) {
	for k := range 6 {
		for _, bad := range []api.Toler{{}, {Key: "k"}, {Key: "K", Any: true}, {Key: "k", Val: "V"}, {Val: "v", Any: true}, {Key: "k", Val: "v", Any: true}} {
			tols := slices.Repeat([]api.Toler{{Key: "k", Val: "v"}}, 6)
			tols[k] = bad
			if taint.MayTols(tols) {
				t.Errorf("P3.1: MayTols with %v at %d", bad, k)
			}
		}
	}
}

func TestBears(t *testing.T) {
	x := api.Taint{Key: "a", Val: "v"}
	for _, y := range []struct {
		tol  api.Toler
		want bool
	}{
		// Of one Key.
		{api.Toler{Key: "a", Val: "v"}, true}, {api.Toler{Key: "a", Val: "w"}, false}, {api.Toler{Key: "a", Val: ""}, false}, {api.Toler{Key: "a", Any: true}, true},
		{api.Toler{Key: "b", Val: "v"}, false}, {api.Toler{Key: "b", Val: "w"}, false}, {api.Toler{Key: "b", Any: true}, false},
		// Of any Key.
		{api.Toler{Val: "v"}, true}, {api.Toler{Val: "w"}, false}, {api.Toler{}, false}, {api.Toler{Any: true}, true},
		// Of Any with a Val, which is not asked then, but the Key is.
		{api.Toler{Key: "a", Val: "w", Any: true}, true}, {api.Toler{Key: "a", Val: "v", Any: true}, true}, {api.Toler{Val: "w", Any: true}, true}, {api.Toler{Key: "b", Val: "v", Any: true}, false},
		// What only looks alike.
		{api.Toler{Key: "A", Val: "v"}, false}, {api.Toler{Key: "a", Val: "V"}, false}, {api.Toler{Key: "aa", Any: true}, false}, {api.Toler{Key: "a ", Any: true}, false}, {api.Toler{Key: "a", Val: "vv"}, false}, {api.Toler{Key: "v", Val: "a"}, false}, {api.Toler{Key: "v", Any: true}, false},
	} {
		if got := taint.Bears(y.tol, x); got != y.want {
			t.Errorf("P3.1: Bears of %v and %v = %v", y.tol, x, got)
		}
	}
}

func TestBearsWhatMayNotBe(t *testing.T) {
	long := strings.Repeat("k", 1<<16)
	for _, y := range []struct {
		tol  api.Toler
		x    api.Taint
		want bool
	}{
		{api.Toler{}, api.Taint{}, true}, {api.Toler{}, api.Taint{Key: "a"}, true}, {api.Toler{}, api.Taint{Val: "v"}, false}, {api.Toler{Any: true}, api.Taint{}, true}, {api.Toler{Val: "v"}, api.Taint{Val: "v"}, true},
		{api.Toler{Key: "a"}, api.Taint{Key: "a"}, true}, {api.Toler{Key: "a"}, api.Taint{}, false}, {api.Toler{Key: "a", Any: true}, api.Taint{}, false}, {api.Toler{Key: "a", Val: "v"}, api.Taint{Key: "a"}, false},
		{api.Toler{Key: "A", Val: "\xff"}, api.Taint{Key: "A", Val: "\xff"}, true}, {api.Toler{Key: "\xff", Any: true}, api.Taint{Key: "\xfe"}, false},
		{api.Toler{Key: long, Val: long}, api.Taint{Key: long, Val: long}, true}, {api.Toler{Key: long + "k", Val: long}, api.Taint{Key: long, Val: long}, false}, {api.Toler{Key: long, Val: long}, api.Taint{Key: long, Val: long + "k"}, false},
	} {
		if got := taint.Bears(y.tol, y.x); got != y.want {
			t.Errorf("P3.1: Bears of %.40v and %.40v = %v", y.tol, y.x, got)
		}
	}
}

func TestAll(t *testing.T) {
	a, b, c := api.Taint{Key: "a", Val: "v"}, api.Taint{Key: "b", Val: "w"}, api.Taint{Key: "c", Val: "v"}
	ofA, ofB, ofC := api.Toler{Key: "a", Val: "v"}, api.Toler{Key: "b", Any: true}, api.Toler{Key: "c", Val: "v"}
	for _, x := range []struct {
		tols []api.Toler
		ts   []api.Taint
		want bool
	}{
		// No taint, no toleration.
		{nil, nil, true}, {[]api.Toler{}, []api.Taint{}, true}, {[]api.Toler{ofA}, nil, true}, {[]api.Toler{{}}, []api.Taint{}, true}, {nil, []api.Taint{a}, false}, {[]api.Toler{}, []api.Taint{a, b}, false}, {nil, []api.Taint{{}}, false},
		// Each by one of its own, in any order.
		{[]api.Toler{ofA, ofB, ofC}, []api.Taint{a, b, c}, true}, {[]api.Toler{ofC, ofB, ofA}, []api.Taint{a, b, c}, true}, {[]api.Toler{ofB, ofA}, []api.Taint{a, b}, true}, {[]api.Toler{ofA}, []api.Taint{a}, true},
		// One that nobody bears: the first, the middle, the last.
		{[]api.Toler{ofB, ofC}, []api.Taint{a, b, c}, false}, {[]api.Toler{ofA, ofC}, []api.Taint{a, b, c}, false}, {[]api.Toler{ofA, ofB}, []api.Taint{a, b, c}, false}, {[]api.Toler{ofA}, []api.Taint{b}, false},
		// One bears several; others bear nothing.
		{[]api.Toler{{Any: true}}, []api.Taint{a, b, c}, true}, {[]api.Toler{{Val: "v"}}, []api.Taint{a, c}, true}, {[]api.Toler{{Val: "v"}}, []api.Taint{a, b, c}, false}, {[]api.Toler{{Val: "v"}, ofB}, []api.Taint{a, b, c}, true},
		{[]api.Toler{{Key: "d", Any: true}, {Val: "x"}, ofA}, []api.Taint{a}, true}, {[]api.Toler{{}, {Key: "a"}, {Key: "A", Any: true}}, []api.Taint{a}, false},
		// No toleration lends another one its Key or its Val.
		{[]api.Toler{{Key: "a", Val: "w"}, {Key: "b", Val: "v"}}, []api.Taint{a}, false},
		// Lists that May and MayTols do not take.
		{[]api.Toler{ofA}, []api.Taint{a, a, a, a, a, a, a}, true}, {[]api.Toler{ofA, ofA, ofA, ofA, ofA, ofA, ofA, ofB}, []api.Taint{b, a, b}, true}, {[]api.Toler{{}}, []api.Taint{{}}, true},
	} {
		if got := taint.All(x.tols, x.ts); got != x.want {
			t.Errorf("P3.1: All of %v and %v = %v", x.tols, x.ts, got)
		}
	}
}

func TestAllOfMany(t *testing.T) {
	tols := append(slices.Repeat([]api.Toler{{Key: "j", Any: true}}, 1000), api.Toler{Key: "k", Val: "v"})
	ts := slices.Repeat(taints("k"), 1000)
	if !taint.All(tols, ts) {
		t.Error("P3.1: All of many that are borne")
	}
	if taint.All(tols, append(ts, api.Taint{Key: "k", Val: "w"})) {
		t.Error("P3.1: All of many, the last of which nobody bears")
	}
}

func TestListsStay(t *testing.T) {
	ts := [4]api.Taint{{Key: "k", Val: "v"}, {Key: "b", Val: "w"}, {Key: "z", Val: "x"}, {Key: "a", Val: "y"}}
	tols := [4]api.Toler{{Key: "z", Val: "x"}, {Any: true}, {Key: "a", Any: true}, {Val: "w"}}
	wantTs, wantTols := ts, tols
	for n := range 5 {
		taint.May(ts[:n])
		taint.MayTols(tols[:n])
		taint.All(tols[:n], ts[:n])
	}
	if ts != wantTs || tols != wantTols {
		t.Errorf("P0.3: made %v, %v", ts, tols)
	}
}
