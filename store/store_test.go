package store_test

import (
	"fmt"
	"math"
	"slices"
	"strings"
	"testing"

	"interrex/api"
	"interrex/store"
)

// Keys and values at their ends.
var (
	key20   = strings.Repeat("k", 20)
	key21   = strings.Repeat("k", 21)
	val4000 = strings.Repeat("v", 4000)
	val4001 = strings.Repeat("v", 4001)
)

// puts are that many writes, of a key each.
func puts(n int) []api.Write {
	var ws []api.Write
	for k := range n {
		ws = append(ws, put(fmt.Sprintf("w%03d", k), fmt.Sprint("v", k)))
	}
	return ws
}

// begun is a pair with some keys: a@1, p/a@4, p/b@2, p/bb@3; n/a and p/c went at 5 and 6, and z is there again @8.
func begun(t *testing.T) pair {
	t.Helper()
	x := both()
	for k, ws := range [][]api.Write{
		{put("a", "1"), put("n/a", "2"), put("p/a", "3"), put("z", "")},
		{put("p/b", "4"), put("p/c", "5")},
		{put("p/bb", "6")},
		{put("p/a", "7")},
		{gone("n/a"), gone("z")},
		{gone("p/c")},
		{put("x", "8")},
		{put("z", "9"), gone("x")},
	} {
		if e := x.txn(t, fmt.Sprint("the beginning, ", k), txn(ws...)); e != api.OK {
			t.Fatalf("P7.1: the beginning, %d: Txn: %d", k, e)
		}
	}
	x.ask(t, "the beginning")
	return x
}

// refuse asks that tx is refused with that error, and does nothing.
func (x pair) refuse(t *testing.T, what string, tx api.Txn, want api.Errno) {
	t.Helper()
	rev := x.s.Rev()
	if e := x.txn(t, what, tx); e != want || x.s.Rev() != rev {
		t.Errorf("P7.1: %s: Txn: %d, not %d, with Rev %d behind %d", what, e, want, x.s.Rev(), rev)
	}
	x.ask(t, what)
}

// take asks that tx is done at a new revision.
func (x pair) take(t *testing.T, what string, tx api.Txn) {
	t.Helper()
	rev := x.s.Rev()
	if e := x.txn(t, what, tx); e != api.OK || x.s.Rev() != rev+1 {
		t.Errorf("P7.1: %s: Txn: %d, with Rev %d behind %d", what, e, x.s.Rev(), rev)
	}
	x.ask(t, what)
}

func TestNew(t *testing.T) {
	s := store.New()
	if r, w := s.Asked(); s.Rev() != 0 || s.Base() != 0 || r != 0 || w != 0 {
		t.Errorf("P7.1: New: Rev %d, Base %d, Asked %d, %d", s.Rev(), s.Base(), r, w)
	}
	if es := s.List(); len(es) != 0 {
		t.Errorf("P7.1: New: List %v", es)
	}
	if es, e := s.Watch(0); len(es) != 0 || e != api.OK {
		t.Errorf("P7.1: New: Watch(0): %v, %d", es, e)
	}
	both().ask(t, "New")
	// One has nothing of another one.
	a, b := store.New(), store.New()
	a.Txn(txn(put("a", "1")))
	if _, ok := b.Get("a"); ok || b.Rev() != 0 || len(b.List()) != 0 {
		t.Error("P7.1: New: it has what another one was told")
	}
	if r, w := b.Asked(); r != 2 || w != 0 {
		t.Errorf("P7.1: New: Asked %d, %d", r, w)
	}
}

func TestWrites(t *testing.T) {
	x := begun(t)
	for k, ws := range [][]api.Write{
		{put("new", "1")}, {put("new", "1")}, {put("new", "")}, {put("new", "2"), put("other", "3")}, {put("b", "4"), put("a", "5")}, {gone("b")}, {gone("new"), put("a", "6"), gone("other"), put("b", "7")},
		{put("z/", "\x00\xff"), put("\x00", "x"), put("\xff\xfe", "y"), put("é", "z"), put("A", "\n")}, {gone("\x00"), gone("a")}, {put("a", val4000), put(key20, val4000)}, {gone(key20)}, {put(key20, "")},
	} {
		x.take(t, fmt.Sprint("writes ", k), txn(ws...))
	}
	if got := entries(x.list()); !strings.HasPrefix(got, `"A" 16 "\n"; "a" 18 "vv`) || !strings.HasSuffix(got, `"\xff\xfe" 16 "y"; `) {
		t.Errorf("P7.1: List: %s", got)
	}
}

func TestListRises(t *testing.T) {
	keys := []string{"\x00", "\x00\x00", " ", "-", "/", "0", "9", "A", "Z", "a", "a\x00", "a-", "a/", "a0", "aa", "ab", "b", "l", "n/a", "p", "p/", "p/a", "p/a1", "p/b", "z", "\x7f", "\x80", "é", "\xff", "\xff\xff"}
	x := both()
	for k := range keys {
		// In another order than that of the list.
		x.take(t, "rising keys", txn(put(keys[k*7%len(keys)], fmt.Sprint(k))))
	}
	var got []string
	for _, e := range x.list() {
		got = append(got, e.Key)
	}
	if !slices.Equal(got, keys) {
		t.Errorf("P7.1: List: %q", got)
	}
	for _, key := range keys {
		x.take(t, "keys that go", txn(gone(key)))
	}
	if es := x.list(); len(es) != 0 {
		t.Errorf("P7.1: List: %v", es)
	}
}

func TestGet(t *testing.T) {
	s := begun(t).s
	for key, want := range map[string]api.Entry{"a": {Key: "a", Rev: 1, Val: []byte("1")}, "p/a": {Key: "p/a", Rev: 4, Val: []byte("7")}, "p/b": {Key: "p/b", Rev: 2, Val: []byte("4")}, "p/bb": {Key: "p/bb", Rev: 3, Val: []byte("6")}, "z": {Key: "z", Rev: 8, Val: []byte("9")}} {
		// Twice, since it changes nothing.
		for range 2 {
			if e, ok := s.Get(key); !ok || entries([]api.Entry{e}) != entries([]api.Entry{want}) {
				t.Errorf("P7.1: Get(%q): %v, %v", key, e, ok)
			}
		}
	}
	for _, key := range []string{"", "p", "p/", "n/a", "p/c", "x", "b", "A", "a ", "p/bbb", "\x00", "\xff", key20, key21, strings.Repeat("a", 1<<20)} {
		if e, ok := s.Get(key); ok || e.Key != "" || e.Rev != 0 || e.Val != nil {
			t.Errorf("P7.1: Get(%.30q): %v, %v", key, e, ok)
		}
	}
}

func TestRevs(t *testing.T) {
	s := store.New()
	for k := range int64(300) {
		rev, e := s.Txn(txn(put("a", ""), put(fmt.Sprint("b", k), "")))
		if rev != k+1 || e != api.OK || s.Rev() != k+1 {
			t.Fatalf("P7.1: Txn: %d, %d, with Rev %d", rev, e, s.Rev())
		}
		// Between them those that are refused.
		if rev, e := s.Txn(txn()); rev != 0 || e != api.ErrForm || s.Rev() != k+1 {
			t.Fatalf("P7.1: Txn: %d, %d, with Rev %d", rev, e, s.Rev())
		}
	}
}

func TestHowMany(t *testing.T) {
	x := both()
	guards := func(n int) []api.Guard { return slices.Repeat([]api.Guard{at("none", 0), under("none", 0)}, n)[:n] }
	for _, k := range []struct {
		guards, writes int
		want           api.Errno
	}{
		{0, 0, api.ErrForm}, {1, 0, api.ErrForm}, {20, 0, api.ErrForm}, {21, 0, api.ErrForm}, {0, 1, api.OK}, {1, 1, api.OK}, {19, 1, api.OK}, {20, 1, api.OK}, {21, 1, api.ErrForm}, {22, 1, api.ErrForm},
		{0, 2, api.OK}, {0, 63, api.OK}, {0, 64, api.OK}, {20, 64, api.OK}, {21, 64, api.ErrForm}, {0, 65, api.ErrForm}, {0, 66, api.ErrForm}, {20, 65, api.ErrForm}, {0, 5000, api.ErrForm}, {5000, 1, api.ErrForm}, {5000, 5000, api.ErrForm},
	} {
		what := fmt.Sprint(k.guards, " guards, ", k.writes, " writes")
		tx := api.Txn{Guards: guards(k.guards), Writes: puts(k.writes)}
		if k.want != api.OK {
			x.refuse(t, what, tx, k.want)
			continue
		}
		x.take(t, what, tx)
	}
	for _, tx := range []api.Txn{{}, {Writes: []api.Write{}}, {Guards: []api.Guard{}, Writes: make([]api.Write, 0, 9)}, {Guards: guards(3)}} {
		x.refuse(t, "no write", tx, api.ErrForm)
	}
	x.take(t, "an empty list of guards", api.Txn{Guards: []api.Guard{}, Writes: puts(1)})
	// All that are there go at once.
	var ws []api.Write
	for _, w := range puts(64) {
		ws = append(ws, gone(w.Key))
	}
	x.take(t, "64 that go", txn(ws...))
	if es := x.list(); len(es) != 0 {
		t.Errorf("P7.1: behind 64 that go there are %d", len(es))
	}
}

func TestFormOfKeys(t *testing.T) {
	for _, k := range []struct {
		key  string
		want api.Errno
	}{
		{"", api.ErrForm}, {"k", api.OK}, {key20[:19], api.OK}, {key20, api.OK}, {key21, api.ErrForm}, {strings.Repeat("k", 1<<16), api.ErrForm},
		{strings.Repeat("é", 10), api.OK}, {strings.Repeat("é", 10) + "a", api.ErrForm}, {strings.Repeat("é", 11), api.ErrForm}, {strings.Repeat("\x00", 20), api.OK}, {strings.Repeat("\xff", 20), api.OK}, {strings.Repeat("\xff", 21), api.ErrForm}, {" ", api.OK}, {"/", api.OK}, {"P", api.OK},
	} {
		for what, tx := range map[string]api.Txn{
			"a write":           txn(put(k.key, "v")),
			"the last write":    txn(append(puts(63), put(k.key, "v"))...),
			"the first write":   txn(append([]api.Write{put(k.key, "v")}, puts(63)...)...),
			"a guard":           if1(put("w", ""), at(k.key, 0)),
			"an Under guard":    if1(put("w", ""), under(k.key, 0)),
			"the last guard":    if1(put("w", ""), at("none", 0), under("none", 0), at(k.key, 0)),
			"the last Under":    if1(put("w", ""), at("none", 0), under("none", 0), under(k.key, 0)),
			"guard and write":   if1(put(k.key, "v"), at(k.key, 0), under(k.key, 0)),
			"the 20th guard":    if1(put("w", ""), append(slices.Repeat([]api.Guard{at("none", 0)}, 19), at(k.key, 0))...),
			"the first guard":   if1(put("w", ""), at(k.key, 0), at("none", 0)),
			"a longer one's":    if1(put("w", ""), under(k.key, 5)),
			"a guard far ahead": if1(put("w", ""), under(k.key, math.MaxInt64)),
		} {
			x := both()
			what = fmt.Sprintf("%s of %.30q", what, k.key)
			if k.want != api.OK {
				x.refuse(t, what, tx, k.want)
				continue
			}
			x.take(t, what, tx)
		}
	}
	// One that goes has such a key, too.
	for _, key := range []string{"", key21} {
		begun(t).refuse(t, "one that goes", txn(gone(key)), api.ErrForm)
	}
	x := both()
	x.take(t, "one of 20 bytes", txn(put(key20, "")))
	x.take(t, "one of 20 bytes that goes", txn(gone(key20)))
}

func TestFormOfGuardRevs(t *testing.T) {
	for _, key := range []string{"a", "p/a", "none", "n/a", "p/"} {
		for _, rev := range []int64{math.MinInt64, math.MinInt64 + 1, -9, -4, -1} {
			for _, u := range []bool{false, true} {
				g := api.Guard{Key: key, Rev: rev, Under: u}
				begun(t).refuse(t, fmt.Sprint("a guard ", g), if1(put("w", ""), g), api.ErrForm)
				begun(t).refuse(t, fmt.Sprint("the last guard ", g), if1(put("w", ""), at("a", 1), at("a", 1), g), api.ErrForm)
			}
		}
	}
}

func TestTwoOfOneKey(t *testing.T) {
	full := puts(64)
	for k, ws := range [][]api.Write{
		{put("a", "1"), put("a", "1")}, {put("a", "1"), put("a", "2")}, {gone("a"), gone("a")}, {put("a", "1"), gone("a")}, {gone("a"), put("a", "1")}, {put("new", "1"), gone("new")}, {gone("new"), put("new", "1")}, {gone("none"), gone("none")},
		{put("a", ""), put("b", ""), put("a", "")}, {put("b", ""), put("a", ""), put("c", ""), gone("a")}, {put("a", "1"), put("a", "1"), put("a", "1")}, {put("b", ""), put("b", ""), gone("a")},
		append(slices.Clone(full[:63]), full[0]), append(slices.Clone(full[:63]), full[62]), append([]api.Write{full[63]}, full[1:]...), append(slices.Clone(full[:62]), gone("w000"), put("x", "")),
	} {
		begun(t).refuse(t, fmt.Sprint("two writes of one Key, ", k), txn(ws...), api.ErrForm)
	}
	// Of two keys of which one begins the other, or that are alike but for their letters' case.
	begun(t).take(t, "writes of p, p/, p/b", txn(put("p", ""), put("p/", ""), put("p/b", ""), gone("p/bb"), put("P/b", ""), put("p/b ", "")))
	// Two guards may be of one key, and of that of a write.
	begun(t).take(t, "guards of one key", if1(put("a", ""), at("a", 1), at("a", 1), under("a", 1), under("a", 9)))
}

func TestFormOfVals(t *testing.T) {
	for _, k := range []struct {
		w    api.Write
		want api.Errno
	}{
		{put("a", val4000), api.OK}, {put("a", val4001), api.ErrForm}, {put("new", val4000), api.OK}, {put("new", val4001), api.ErrForm}, {put("a", val4000[1:]), api.OK}, {put("a", strings.Repeat("v", 1<<20)), api.ErrForm}, {put("a", ""), api.OK}, {api.Write{Key: "a"}, api.OK}, {api.Write{Key: "new"}, api.OK},
		{api.Write{Key: "a", Val: make([]byte, 0, 5000)}, api.OK}, {api.Write{Key: "a", Val: make([]byte, 4000, 5000)}, api.OK},
		{gone("a"), api.OK}, {api.Write{Key: "a", Gone: true, Val: []byte{}}, api.OK}, {api.Write{Key: "a", Gone: true, Val: make([]byte, 0, 9)}, api.OK}, {api.Write{Key: "a", Gone: true, Val: []byte{0}}, api.ErrForm}, {api.Write{Key: "a", Gone: true, Val: []byte("1")}, api.ErrForm},
		{api.Write{Key: "a", Gone: true, Val: []byte(val4000)}, api.ErrForm}, {api.Write{Key: "a", Gone: true, Val: []byte(val4001)}, api.ErrForm}, {api.Write{Key: "none", Gone: true, Val: []byte{0}}, api.ErrForm},
	} {
		for _, ws := range [][]api.Write{{k.w}, {put("b", ""), k.w}, {k.w, put("b", "")}, append(puts(63), k.w)} {
			what := fmt.Sprintf("%q of %d bytes, Gone %v, one of %d writes", k.w.Key, len(k.w.Val), k.w.Gone, len(ws))
			x := begun(t)
			if k.want != api.OK {
				x.refuse(t, what, txn(ws...), k.want)
				continue
			}
			x.take(t, what, txn(ws...))
		}
	}
	// As many as can be, each of the greatest length.
	var ws []api.Write
	for k := range 64 {
		ws = append(ws, put(fmt.Sprint(k), val4000))
	}
	x := begun(t)
	x.take(t, "64 great ones", txn(ws...))
	ws[63] = put("63", val4001)
	x.refuse(t, "64 great ones, the last one too great", txn(ws...), api.ErrForm)
}

func TestGoneOfNone(t *testing.T) {
	for what, ws := range map[string][]api.Write{
		"never was": {gone("none")}, "went": {gone("p/c")}, "went as one of two": {gone("x")}, "begins another one": {gone("p/")}, "is begun by another one": {gone("p/bbb")}, "is not there, beside one that is": {gone("a"), gone("none")}, "is not there, ahead of one that is": {gone("none"), gone("a")},
		"is not there, behind writes": {put("a", "9"), put("new", "9"), gone("none")}, "went, ahead of writes": {gone("p/c"), put("a", "9"), put("new", "9")}, "is not there, of 64": append(puts(63), gone("none")), "is not there, twice": {gone("none"), gone("p/c")},
	} {
		begun(t).refuse(t, "a key that "+what, txn(ws...), api.ErrNone)
	}
	x := begun(t)
	for k := range 4 {
		x.take(t, "a key that comes", txn(put("again", fmt.Sprint(k))))
		x.take(t, "a key that goes", txn(gone("again")))
		x.refuse(t, "a key that went", txn(gone("again")), api.ErrNone)
	}
}

func TestWhichError(t *testing.T) {
	badGuard, badWrite, no, none := at("", 0), put("", ""), at("a", 7), gone("none")
	noUnder := under("p/", 1)
	for k, x := range []struct {
		t    api.Txn
		want api.Errno
	}{
		{api.Txn{Guards: []api.Guard{no}, Writes: []api.Write{none}}, api.ErrGuard}, {api.Txn{Guards: []api.Guard{noUnder}, Writes: []api.Write{none}}, api.ErrGuard}, {api.Txn{Guards: []api.Guard{at("a", 1)}, Writes: []api.Write{none}}, api.ErrNone},
		{api.Txn{Guards: []api.Guard{no, badGuard}, Writes: []api.Write{none}}, api.ErrForm}, {api.Txn{Guards: []api.Guard{noUnder, at("a", -1)}, Writes: puts(1)}, api.ErrForm}, {api.Txn{Guards: []api.Guard{no}, Writes: []api.Write{none, badWrite}}, api.ErrForm}, {api.Txn{Guards: []api.Guard{no}}, api.ErrForm}, {api.Txn{Guards: []api.Guard{no}, Writes: []api.Write{none, none}}, api.ErrForm},
		{api.Txn{Writes: []api.Write{none, badWrite}}, api.ErrForm}, {api.Txn{Writes: []api.Write{none, put("a", val4001)}}, api.ErrForm}, {api.Txn{Writes: []api.Write{none, {Key: "a", Gone: true, Val: []byte{1}}}}, api.ErrForm}, {api.Txn{Writes: append(puts(64), none)}, api.ErrForm}, {api.Txn{Writes: []api.Write{none, put("a", ""), put("a", "")}}, api.ErrForm},
		{api.Txn{Guards: slices.Repeat([]api.Guard{no}, 21), Writes: []api.Write{none}}, api.ErrForm}, {api.Txn{Guards: slices.Repeat([]api.Guard{no}, 20), Writes: []api.Write{none}}, api.ErrGuard}, {api.Txn{Guards: slices.Repeat([]api.Guard{at("a", 1)}, 20), Writes: []api.Write{none}}, api.ErrNone}, {api.Txn{Guards: []api.Guard{no}, Writes: append(puts(64), none)}, api.ErrForm},
		{api.Txn{Guards: []api.Guard{at("none", 1)}, Writes: []api.Write{none}}, api.ErrGuard}, {api.Txn{Guards: []api.Guard{at("none", 0)}, Writes: []api.Write{none}}, api.ErrNone}, {api.Txn{Guards: []api.Guard{badGuard}, Writes: []api.Write{badWrite}}, api.ErrForm},
	} {
		begun(t).refuse(t, fmt.Sprint("which error, ", k), x.t, x.want)
	}
}

func TestEmptyStore(t *testing.T) {
	for _, x := range []struct {
		t    api.Txn
		want api.Errno
	}{{txn(gone("a")), api.ErrNone}, {if1(put("a", ""), at("a", 1)), api.ErrGuard}, {if1(put("a", ""), at("b", math.MaxInt64)), api.ErrGuard}, {txn(), api.ErrForm}} {
		both().refuse(t, "an empty store", x.t, x.want)
	}
	both().take(t, "an empty store", if1(put("a", ""), at("a", 0), under("a", 0), under("b", 1), under("b", math.MaxInt64)))
	for _, rev := range []int64{math.MinInt64, -1, 0, 1, math.MaxInt64} {
		x := both()
		x.compact(rev)
		x.ask(t, fmt.Sprint("an empty store behind Compact ", rev))
		x.take(t, fmt.Sprint("an empty store behind Compact ", rev), txn(put("a", "")))
	}
}

func TestNilStore(t *testing.T) {
	for what, s := range map[string]*store.Store{"nil": nil, "none of New's": {}} {
		for range 2 {
			for _, rev := range []int64{math.MinInt64, -1, 0, 1, math.MaxInt64} {
				s.Compact(rev)
				if es, e := s.Watch(rev); es != nil || e != api.ErrOff {
					t.Errorf("P7.1: %s: Watch(%d): %v, %d", what, rev, es, e)
				}
			}
			for _, tx := range []api.Txn{{}, txn(put("a", "1")), txn(gone("a")), txn(put("", "")), if1(put("a", ""), at("a", 1)), {Guards: make([]api.Guard, 21), Writes: puts(65)}} {
				if rev, e := s.Txn(tx); rev != 0 || e != api.ErrOff {
					t.Errorf("P7.1: %s: Txn: %d, %d", what, rev, e)
				}
			}
			for _, key := range []string{"", "a", key21} {
				if e, ok := s.Get(key); ok || e.Key != "" || e.Rev != 0 || e.Val != nil {
					t.Errorf("P7.1: %s: Get(%q): %v, %v", what, key, e, ok)
				}
			}
			if es := s.List(); es != nil {
				t.Errorf("P7.1: %s: List %v", what, es)
			}
			if r, w := s.Asked(); s.Rev() != 0 || s.Base() != 0 || r != 0 || w != 0 {
				t.Errorf("P7.1: %s: Rev %d, Base %d, Asked %d, %d", what, s.Rev(), s.Base(), r, w)
			}
		}
	}
}
