package reply_test

import (
	"fmt"
	"math"
	"slices"
	"strings"
	"testing"

	"interrex/api"
)

// someAnswers are a few that may be, with entries and events and without.
func someAnswers() []api.Answer {
	return []api.Answer{
		head(0, 1, api.CGet, api.OK, 0), head(3, 9, api.CTxn, api.ErrOff, mostRev), with([]api.Entry{entry("a", 1, "v")}), with(nil, wrote(1, "a", "v"), went(2, "a")), with(entries(3), events(6)...), greatest(),
	}
}

func TestTo(t *testing.T) {
	for _, a := range someAnswers() {
		for _, to := range []int{0, 1, 6, 7} {
			a.To = to
			askBack(t, a)
		}
		for _, to := range []int{-1, 8, 9, 256, 1 << 32, 1<<32 + 7, -8, -256, math.MinInt, math.MinInt + 7, math.MaxInt} {
			a.To = to
			askNone(t, "a To beyond", a)
		}
	}
}

func TestId(t *testing.T) {
	for _, a := range someAnswers() {
		for _, id := range []int64{1, 2, 1 << 32, mostId - 1, mostId} {
			a.Id = id
			askBack(t, a)
		}
		for _, id := range []int64{0, -1, mostId + 1, 1 << 41, -mostId, 1 << 62, math.MinInt64, math.MinInt64 + 1, math.MaxInt64} {
			a.Id = id
			askNone(t, "an Id beyond", a)
		}
	}
}

func TestKind(t *testing.T) {
	for _, a := range someAnswers() {
		for kind := api.CGet; kind <= api.CTxn; kind++ {
			a.Kind = kind
			askBack(t, a)
		}
		for _, kind := range []int{0, -1, 5, 6, 255, 256 + api.CGet, 1<<32 + api.CList, -api.CWatch, math.MinInt, math.MinInt + 1, math.MaxInt} {
			a.Kind = kind
			askNone(t, "no Kind", a)
		}
	}
}

func TestErr(t *testing.T) {
	for _, a := range someAnswers() {
		for err := api.OK; err <= api.ErrOff; err++ {
			a.Err = err
			askBack(t, a)
		}
		for _, err := range []api.Errno{-1, 10, 11, -9, 255, 256, 1 << 32, 1<<32 + 9, math.MinInt, math.MinInt + 1, math.MaxInt} {
			a.Err = err
			askNone(t, "no Err", a)
		}
	}
}

func TestRev(t *testing.T) {
	for _, a := range someAnswers() {
		for _, rev := range []int64{0, 1, 1 << 32, mostRev - 1, mostRev} {
			a.Rev = rev
			askBack(t, a)
		}
		for _, rev := range []int64{-1, -2, mostRev + 1, 1 << 41, -mostRev, 1 << 62, math.MinInt64, math.MinInt64 + 1, math.MaxInt64} {
			a.Rev = rev
			askNone(t, "a Rev beyond", a)
		}
	}
	askNone(t, "the zero answer", api.Answer{})
}

func TestHowMany(t *testing.T) {
	for _, n := range []int{100, 99} {
		askBack(t, with(slices.Repeat([]api.Entry{entry("a", 1, "v")}, n), slices.Repeat([]api.Event{went(1, "a")}, n)...))
	}
	for _, n := range []int{101, 102, 128, 256, 356, 5000} {
		es, vs := slices.Repeat([]api.Entry{entry("a", 1, "v")}, n), slices.Repeat([]api.Event{went(1, "a")}, n)
		askNone(t, fmt.Sprint(n, " entries"), with(es))
		askNone(t, fmt.Sprint(n, " events"), with(nil, vs...))
		askNone(t, fmt.Sprint(n, " entries"), with(es, events(100)...))
		askNone(t, fmt.Sprint(n, " events"), with(entries(100), vs...))
		askNone(t, fmt.Sprint(n, " of both"), with(es, vs...))
	}
}

// places are answers with the entry e at each of several places among others, or with the event v.
func places(e api.Entry, v api.Event) map[string]api.Answer {
	return map[string]api.Answer{
		"the one entry": with([]api.Entry{e}), "the first entry": with(append([]api.Entry{e}, entries(99)...), events(100)...), "the last entry": with(append(entries(99), e), events(100)...), "the second entry": with([]api.Entry{entry("a", 1, "v"), e, entry("b", 1, "v")}),
		"the one event": with(nil, v), "the first event": with(entries(100), append([]api.Event{v}, events(99)...)...), "the last event": with(entries(100), append(events(99), v)...), "the second event": with(nil, wrote(1, "a", "v"), v, went(1, "b")),
	}
}

// askPlaces asks whether an answer may be that has, at any place, an entry and an event of these parts.
func askPlaces(t *testing.T, what, key string, rev int64, val string, want bool) {
	t.Helper()
	all := places(entry(key, rev, val), wrote(rev, key, val))
	if val == "" {
		for place, a := range places(entry(key, rev, val), went(rev, key)) {
			all[place+", Gone"] = a
		}
	}
	for place, a := range all {
		if want {
			askBack(t, a)
			continue
		}
		askNone(t, place+": "+what, a)
	}
}

func TestKeys(t *testing.T) {
	for _, key := range []string{"a", "\x00", "\xff", "\x80", "é", " ", "p/", "P/A", key20, key20[1:], strings.Repeat("é", 10), strings.Repeat("\x00", 20), strings.Repeat("\xff", 20)} {
		askPlaces(t, "", key, 1, "v", true)
		askPlaces(t, "", key, 1, "", true)
	}
	for _, key := range []string{"", key20 + "1", strings.Repeat("\x00", 21), strings.Repeat("é", 11), strings.Repeat("k", 256), strings.Repeat("k", 276), strings.Repeat("k", 1<<16+1)} {
		askPlaces(t, fmt.Sprint("a Key of ", len(key), " bytes"), key, 1, "v", false)
		askPlaces(t, fmt.Sprint("a Key of ", len(key), " bytes"), key, 1, "", false)
	}
}

func TestRevs(t *testing.T) {
	for _, rev := range []int64{1, 2, 1 << 32, mostRev - 1, mostRev} {
		askPlaces(t, "", "a", rev, "v", true)
		askPlaces(t, "", "a", rev, "", true)
	}
	for _, rev := range []int64{0, -1, -2, mostRev + 1, 1 << 41, -mostRev, 1 << 62, math.MinInt64, math.MinInt64 + 1, math.MaxInt64} {
		askPlaces(t, fmt.Sprint("a Rev of ", rev), "a", rev, "v", false)
		askPlaces(t, fmt.Sprint("a Rev of ", rev), "a", rev, "", false)
	}
}

func TestVals(t *testing.T) {
	for _, n := range []int{0, 1, 255, 256, 3999, 4000} {
		askPlaces(t, "", "a", 1, val4000[:n], true)
	}
	for _, n := range []int{4001, 4002, 4096, 8000, 1<<16 + 1, 1 << 20} {
		askPlaces(t, fmt.Sprint("a Val of ", n, " bytes"), "a", 1, strings.Repeat("v", n), false)
	}
	// Of a Gone one none at all.
	for _, n := range []int{1, 2, 4000, 4001} {
		for place, a := range places(entry("b", 1, ""), api.Event{Rev: 1, Key: "a", Val: make([]byte, n), Gone: true}) {
			if strings.Contains(place, "event") {
				askNone(t, fmt.Sprint(place, ": Gone, a Val of ", n, " bytes"), a)
			}
		}
	}
	for _, a := range places(entry("b", 1, ""), api.Event{Rev: 1, Key: "a", Val: []byte{}, Gone: true}) {
		askBack(t, a)
	}
}
