package code_test

import (
	"math"
	"strings"
	"testing"

	"interrex/code"
)

func TestKeysOfKinds(t *testing.T) {
	if code.KNone != 0 || code.KPod != 1 || code.KNode != 2 || code.KLease != 3 {
		t.Error("P5.1: the kinds have other numbers")
	}
	for _, x := range []struct {
		kind int
		name string
		want string
	}{
		{code.KPod, "a", "p/a"}, {code.KPod, "web-1", "p/web-1"}, {code.KPod, "abcdefghijkl", "p/abcdefghijkl"}, {code.KPod, "-", "p/-"}, {code.KPod, "l", "p/l"}, {code.KPod, "0", "p/0"},
		{code.KNode, "a", "n/a"}, {code.KNode, "n1", "n/n1"}, {code.KNode, "abcdefghijkl", "n/abcdefghijkl"}, {code.KNode, "z9", "n/z9"},
		{code.KLease, "a", "l"}, {code.KLease, "", "l"}, {code.KLease, "A B", "l"}, {code.KLease, "\xff", "l"}, {code.KLease, strings.Repeat("a", 1<<16), "l"},
		{code.KPod, "", ""}, {code.KPod, "A", ""}, {code.KPod, "a b", ""}, {code.KPod, "p/a", ""}, {code.KPod, "abcdefghijklm", ""}, {code.KPod, "é", ""}, {code.KPod, "\x00", ""}, {code.KPod, strings.Repeat("a", 1<<16), ""},
		{code.KNode, "", ""}, {code.KNode, "N", ""}, {code.KNode, "a/", ""}, {code.KNode, "abcdefghijklm", ""}, {code.KNode, "\xff", ""},
		{code.KNone, "a", ""}, {code.KNone, "", ""}, {-1, "a", ""}, {4, "a", ""}, {5, "a", ""}, {-3, "", ""}, {1<<32 + 1, "a", ""}, {1<<32 + 3, "a", ""}, {math.MaxInt, "a", ""}, {math.MinInt, "a", ""},
	} {
		got := code.Key(x.kind, x.name)
		if got != x.want {
			t.Errorf("P5.1: Key(%d, %.20q) = %q", x.kind, x.name, got)
		}
		want := code.KNone
		if x.want != "" {
			want = x.kind
		}
		if kind := code.Kind(got); kind != want {
			t.Errorf("P5.1: Kind(%q) = %d", got, kind)
		}
	}
}

func TestKindsOfKeys(t *testing.T) {
	for key, want := range map[string]int{
		"p/a": code.KPod, "p/web-1": code.KPod, "p/abcdefghijkl": code.KPod, "p/l": code.KPod, "p/p": code.KPod, "p/-": code.KPod, "p/0": code.KPod,
		"n/a": code.KNode, "n/n1": code.KNode, "n/abcdefghijkl": code.KNode, "n/l": code.KNode, "n/n": code.KNode, "l": code.KLease,
		"": 0, "p": 0, "n": 0, "/": 0, "p/": 0, "n/": 0, "l/": 0, "/a": 0, "a": 0, "ll": 0, "l/a": 0, "la": 0, "L": 0, " l": 0, "l ": 0, "l\x00": 0,
		"p/abcdefghijklm": 0, "n/abcdefghijklm": 0, "p/A": 0, "n/A": 0, "p/WEB": 0, "P/a": 0, "N/a": 0, "p/a/b": 0, "n//a": 0, "p/ a": 0, "p/a ": 0, "p/\xff": 0, "p/é": 0, "n/\x00": 0,
		"x/a": 0, "pa": 0, "na": 0, "p-a": 0, "p\\a": 0, " p/a": 0, "p/p/a": 0, "n/p/a": 0, "pn/a": 0, "\xffp/a": 0,
	} {
		if got := code.Kind(key); got != want {
			t.Errorf("P5.1: Kind(%q) = %d", key, got)
		}
	}
	for _, ahead := range []string{"p/", "n/", "l", ""} {
		if got := code.Kind(ahead + strings.Repeat("a", 1<<20)); got != code.KNone {
			t.Errorf("P5.1: Kind of %q and many letters = %d", ahead, got)
		}
	}
}

func TestKindOfEachByte(t *testing.T) {
	for c := range 256 {
		b := string([]byte{byte(c)})
		letter := strings.Contains("abcdefghijklmnopqrstuvwxyz0123456789-", b)
		for key, want := range map[string]int{"p/" + b: code.KPod, "n/" + b: code.KNode, "p/a" + b: code.KPod, "n/" + b + "z": code.KNode} {
			if !letter {
				want = code.KNone
			}
			if got := code.Kind(key); got != want {
				t.Errorf("P5.1: Kind(%q) = %d", key, got)
			}
		}
		want := map[string]int{"l": code.KLease}[b]
		if got := code.Kind(b); got != want {
			t.Errorf("P5.1: Kind(%q) = %d", b, got)
		}
		name := "a" + b
		if letter != (code.Key(code.KPod, name) == "p/"+name) || letter == (code.Key(code.KNode, name) == "") {
			t.Errorf("P5.1: Key of %q = %q, %q", name, code.Key(code.KPod, name), code.Key(code.KNode, name))
		}
	}
}
