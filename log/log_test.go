package log_test

import (
	"fmt"
	"math"
	"slices"
	"strings"
	"testing"

	"interrex/api"
	"interrex/log"
)

// at gives events of these Revs, no two alike.
func at(revs ...int64) []api.Event {
	var es []api.Event
	for k, rev := range revs {
		e := api.Event{Rev: rev, Key: fmt.Sprintf("k%d-%d", rev, k), Val: []byte(fmt.Sprintf("v%d-%d", rev, k))}
		// Such as a key that went, too.
		if k%3 == 2 {
			e.Val, e.Gone = nil, true
		}
		es = append(es, e)
	}
	return es
}

// upFrom are n Revs from that one on.
func upFrom(rev int64, n int) []int64 {
	var revs []int64
	for k := range n {
		revs = append(revs, rev+int64(k))
	}
	return revs
}

// text tells events with all their parts.
func text(es []api.Event) string {
	var b strings.Builder
	for _, e := range es {
		fmt.Fprintf(&b, "%d %q %q %v; ", e.Rev, e.Key, e.Val, e.Gone)
	}
	return b.String()
}

// revs tells the Revs of events.
func revs(es []api.Event) string {
	var b strings.Builder
	for _, e := range es {
		fmt.Fprint(&b, e.Rev, " ")
	}
	return b.String()
}

// plain is a log as the chapter's words have it, one by one.
type plain struct {
	most       int
	es         []api.Event
	base, last int64
}

func (p *plain) add(es []api.Event) bool {
	last := p.last
	for k, e := range es {
		if e.Rev < last || k == 0 && e.Rev == last {
			return false
		}
		last = e.Rev
	}
	if len(es) == 0 {
		return false
	}
	p.es, p.last = slices.Concat(p.es, es), last
	for len(p.es) > p.most {
		least := p.es[0].Rev
		p.es = slices.DeleteFunc(p.es, func(e api.Event) bool { return e.Rev == least })
		p.base = least
	}
	return true
}

func (p *plain) from(rev int64) ([]api.Event, api.Errno) {
	switch {
	case rev < p.base:
		return nil, api.ErrCompact
	case rev > p.last:
		return nil, api.ErrRange
	}
	return slices.DeleteFunc(slices.Clone(p.es), func(e api.Event) bool { return e.Rev <= rev }), api.OK
}

func (p *plain) cut(rev int64) {
	p.es = slices.DeleteFunc(slices.Clone(p.es), func(e api.Event) bool { return e.Rev <= rev })
	p.base = max(p.base, min(rev, p.last))
}

// ask asks Base, Last, and From of each Rev worth asking, which are to be those of want.
func ask(t *testing.T, what string, l *log.Log, want *plain) {
	t.Helper()
	if l.Base() != want.base || l.Last() != want.last {
		t.Fatalf("P6.1: %s: Base %d, Last %d; not %d, %d", what, l.Base(), l.Last(), want.base, want.last)
	}
	asked := []int64{math.MinInt64, math.MinInt64 + 1, -1, 0, 1, math.MaxInt64 - 1, math.MaxInt64, want.base, want.last}
	for d := range int64(3) {
		asked = append(asked, want.base-d, want.last-d)
		if want.last < math.MaxInt64-d {
			asked = append(asked, want.base+d, want.last+d)
		}
	}
	for _, e := range want.es {
		asked = append(asked, e.Rev, e.Rev-1)
	}
	slices.Sort(asked)
	for _, rev := range slices.Compact(asked) {
		es, e := l.From(rev)
		wantEs, wantE := want.from(rev)
		if e != wantE || text(es) != text(wantEs) {
			t.Fatalf("P6.1: %s: From(%d): %s, %d; not %s, %d", what, rev, revs(es), e, revs(wantEs), wantE)
		}
		if e != api.OK && len(es) != 0 {
			t.Fatalf("P0.2: %s: From(%d): %s beside %d", what, rev, revs(es), e)
		}
	}
}

// full is a log for most events to which these were added, each list at once.
func full(t *testing.T, most int, lists ...[]int64) (*log.Log, *plain) {
	t.Helper()
	l, want := log.New(most), &plain{most: most}
	for _, list := range lists {
		if !l.Add(at(list...)...) || !want.add(at(list...)) {
			t.Fatalf("P6.1: Add of %v: false", list)
		}
		ask(t, fmt.Sprint("with ", list), l, want)
	}
	return l, want
}

func TestNewLog(t *testing.T) {
	for _, x := range []struct{ most, want int }{{-1, 1}, {0, 1}, {1, 1}, {2, 2}, {3, 3}, {64, 64}, {999, 999}, {1000, 1000}, {1001, 1000}, {1 << 40, 1000}, {1<<32 + 5, 1000}, {math.MinInt, 1}, {math.MaxInt, 1000}} {
		l := log.New(x.most)
		ask(t, fmt.Sprint("New ", x.most), l, &plain{})
		// As many as it holds, at once: none goes.
		if es := at(upFrom(1, x.want)...); !l.Add(es...) {
			t.Errorf("P6.1: New(%d): Add of %d: false", x.most, x.want)
		}
		if es, e := l.From(0); e != api.OK || len(es) != x.want || l.Base() != 0 {
			t.Errorf("P6.1: New(%d) holds %d, Base %d", x.most, len(es), l.Base())
		}
		// One more: the first one goes.
		l.Add(at(int64(x.want + 1))...)
		if es, e := l.From(1); e != api.OK || len(es) != x.want || l.Base() != 1 || l.Last() != int64(x.want+1) {
			t.Errorf("P6.1: New(%d) holds %d, Base %d", x.most, len(es), l.Base())
		}
	}
}

func TestNewLogsAreApart(t *testing.T) {
	a, b := log.New(2), log.New(2)
	a.Add(at(1, 2)...)
	ask(t, "another log", b, &plain{most: 2})
	b.Add(at(5)...)
	a.Cut(1)
	ask(t, "another log", b, &plain{most: 2, es: at(5), last: 5})
	ask(t, "the first log", a, &plain{most: 2, es: at(1, 2)[1:], base: 1, last: 2})
}

func TestAddOneByOne(t *testing.T) {
	for _, most := range []int{1, 2, 3, 5, 64} {
		l, want := full(t, most)
		for _, rev := range []int64{1, 2, 3, 5, 8, 13, 14, 15, 100, 1 << 40, 1<<40 + 1, math.MaxInt64 - 1, math.MaxInt64} {
			if !l.Add(at(rev)...) || !want.add(at(rev)) {
				t.Errorf("P6.1: Add of %d: false", rev)
			}
			ask(t, fmt.Sprint("New ", most, ", with ", rev), l, want)
		}
	}
}

func TestAddManyAtOnce(t *testing.T) {
	full(t, 10, []int64{1, 2, 3})
	full(t, 10, []int64{4, 4, 4})
	full(t, 10, []int64{1, 1, 2, 5, 5, 5, 9})
	full(t, 10, []int64{1, 1}, []int64{2, 2, 2}, []int64{7}, []int64{8, 9, 9})
	full(t, 10, []int64{math.MaxInt64, math.MaxInt64, math.MaxInt64})
	full(t, 10, []int64{1, math.MaxInt64})
}

func TestAddKeepsAllParts(t *testing.T) {
	es := []api.Event{{Rev: 3}, {Rev: 3, Key: "p/a", Val: []byte{}, Gone: true}, {Rev: 3, Key: "", Val: []byte{0, 255}, Gone: true}, {Rev: 4, Key: "\xff\x00", Val: make([]byte, 5000)}, {Rev: 4, Key: "p/a", Val: []byte("same")}, {Rev: 4, Key: "p/a", Val: []byte("same")}, {Rev: 9, Key: strings.Repeat("k", 1<<16)}}
	l := log.New(10)
	if !l.Add(es...) {
		t.Fatal("P6.1: Add: false")
	}
	ask(t, "any parts", l, &plain{most: 10, es: es, last: 9})
}

func TestAddRefuses(t *testing.T) {
	for _, ahead := range [][][]int64{{}, {{5}}, {{2, 5}}, {{5, 5}}, {{1}, {2, 3}, {4, 5, 5}}} {
		l, want := full(t, 4, ahead...)
		for _, list := range [][]int64{
			{}, {0}, {-1}, {math.MinInt64}, {math.MinInt64, math.MaxInt64}, {0, 7}, {-3, -2, -1}, {0, 0}, {7, 6}, {7, 8, 7}, {7, 0}, {7, 7, 6, 8}, {math.MaxInt64, math.MinInt64}, {math.MaxInt64, math.MaxInt64 - 1}, {7, 8, 9, 10, 11, 12, 13, 12}, {9, 9, 9, 9, 9, 9, 8},
			{want.last}, {want.last, want.last}, {want.last, 9}, {want.last - 1}, {want.last - 1, 9}, {want.last + 1, want.last}, {want.last + 1, want.last - 1},
		} {
			if l.Add(at(list...)...) {
				t.Errorf("P6.1: behind %v: Add of %v: true", ahead, list)
			}
			ask(t, fmt.Sprint("behind ", ahead, ", Add of ", list), l, want)
		}
		// It goes on as if nothing was asked.
		if !l.Add(at(6, 6)...) || !want.add(at(6, 6)) {
			t.Errorf("P6.1: behind %v: Add of 6, 6: false", ahead)
		}
		ask(t, fmt.Sprint("behind ", ahead, " and 6, 6"), l, want)
	}
}

func TestAddOfNone(t *testing.T) {
	l, want := full(t, 3, []int64{1, 2})
	if l.Add() || l.Add(nil...) || l.Add([]api.Event{}...) || l.Add(make([]api.Event, 0, 5)...) {
		t.Error("P6.1: Add of none: true")
	}
	ask(t, "Add of none", l, want)
}

func TestFull(t *testing.T) {
	for k, x := range []struct {
		most  int
		lists [][]int64
		base  int64
		all   string
	}{
		{3, [][]int64{{1, 2, 3}}, 0, "1 2 3 "},
		{3, [][]int64{{1, 2, 3}, {4}}, 1, "2 3 4 "},
		{3, [][]int64{{1, 1, 2}, {4}}, 1, "2 4 "},
		{3, [][]int64{{1, 1, 1}, {4}}, 1, "4 "},
		{3, [][]int64{{1, 1, 1}, {4, 4, 4}}, 1, "4 4 4 "},
		{3, [][]int64{{1, 2, 2}, {4}}, 1, "2 2 4 "},
		{3, [][]int64{{1, 2, 2}, {4, 4}}, 2, "4 4 "},
		{3, [][]int64{{1, 2, 2}, {4, 4, 4, 4}}, 4, ""},
		{3, [][]int64{{1, 2, 3}, {5, 6, 7}}, 3, "5 6 7 "},
		{3, [][]int64{{1, 2, 3}, {5, 6, 7, 8}}, 5, "6 7 8 "},
		{3, [][]int64{{1, 2, 3}, {5, 5, 5, 8}}, 5, "8 "},
		{3, [][]int64{{1, 2, 3}, {5, 8, 8, 8}}, 5, "8 8 8 "},
		{3, [][]int64{{1, 2, 3}, {5, 8, 8, 8, 8}}, 8, ""},
		{3, [][]int64{{1, 2, 3}, {5, 8, 8, 8, 8, 9}}, 8, "9 "},
		{3, [][]int64{{7, 7, 7, 7}}, 7, ""},
		{3, [][]int64{{7, 7, 7, 7}, {8}}, 7, "8 "},
		{3, [][]int64{{7, 7, 7, 7}, {8, 8, 8}}, 7, "8 8 8 "},
		{3, [][]int64{{7, 7, 7, 7}, {8, 8, 8, 8}}, 8, ""},
		{3, [][]int64{{math.MaxInt64, math.MaxInt64, math.MaxInt64, math.MaxInt64}}, math.MaxInt64, ""},
		{3, [][]int64{{1, math.MaxInt64, math.MaxInt64, math.MaxInt64}}, 1, strings.Repeat("9223372036854775807 ", 3)},
		{1, [][]int64{{1}, {2}}, 1, "2 "},
		{1, [][]int64{{1, 2}}, 1, "2 "},
		{1, [][]int64{{1, 1}}, 1, ""},
		{1, [][]int64{{1, 2, 2}}, 2, ""},
		{1, [][]int64{{1, 1, 2}}, 1, "2 "},
		{2, [][]int64{upFrom(1, 100)}, 98, "99 100 "},
	} {
		l, want := full(t, x.most, x.lists...)
		es, e := l.From(l.Base())
		if l.Base() != x.base || revs(es) != x.all || e != api.OK {
			t.Errorf("P6.1, %d: Base %d, %s", k, l.Base(), revs(es))
		}
		last := x.lists[len(x.lists)-1]
		if l.Last() != last[len(last)-1] || l.Last() != want.last {
			t.Errorf("P6.1, %d: Last %d", k, l.Last())
		}
	}
}

func TestFrom(t *testing.T) {
	l, _ := full(t, 6, []int64{2, 3, 3}, []int64{5, 7, 7}, []int64{9})
	for _, x := range []struct {
		rev  int64
		want string
		e    api.Errno
	}{
		{math.MinInt64, "", api.ErrCompact}, {-1, "", api.ErrCompact}, {0, "", api.ErrCompact}, {1, "", api.ErrCompact}, {2, "3 3 5 7 7 9 ", api.OK}, {3, "5 7 7 9 ", api.OK}, {4, "5 7 7 9 ", api.OK}, {5, "7 7 9 ", api.OK}, {6, "7 7 9 ", api.OK}, {7, "9 ", api.OK}, {8, "9 ", api.OK}, {9, "", api.OK}, {10, "", api.ErrRange}, {math.MaxInt64, "", api.ErrRange},
	} {
		// Twice, since it changes nothing.
		for range 2 {
			if es, e := l.From(x.rev); revs(es) != x.want || e != x.e || e != api.OK && es != nil {
				t.Errorf("P6.1: From(%d): %s, %d", x.rev, revs(es), e)
			}
		}
	}
}

func TestCut(t *testing.T) {
	for _, x := range []struct {
		revs []int64
		base int64
		all  string
	}{
		{nil, 2, "3 3 5 7 7 9 "}, {[]int64{math.MinInt64}, 2, "3 3 5 7 7 9 "}, {[]int64{-1}, 2, "3 3 5 7 7 9 "}, {[]int64{0}, 2, "3 3 5 7 7 9 "}, {[]int64{1}, 2, "3 3 5 7 7 9 "}, {[]int64{2}, 2, "3 3 5 7 7 9 "},
		{[]int64{3}, 3, "5 7 7 9 "}, {[]int64{4}, 4, "5 7 7 9 "}, {[]int64{5}, 5, "7 7 9 "}, {[]int64{6}, 6, "7 7 9 "}, {[]int64{7}, 7, "9 "}, {[]int64{8}, 8, "9 "}, {[]int64{9}, 9, ""}, {[]int64{10}, 9, ""}, {[]int64{math.MaxInt64}, 9, ""},
		{[]int64{4, 3}, 4, "5 7 7 9 "}, {[]int64{4, 4}, 4, "5 7 7 9 "}, {[]int64{4, 6}, 6, "7 7 9 "}, {[]int64{9, 1}, 9, ""}, {[]int64{10, 9, 8, -5}, 9, ""}, {[]int64{3, 4, 5, 6, 7}, 7, "9 "},
	} {
		l, want := full(t, 6, []int64{2, 3, 3}, []int64{5, 7, 7}, []int64{9})
		for _, rev := range x.revs {
			l.Cut(rev)
			want.cut(rev)
			ask(t, fmt.Sprint("Cut ", x.revs), l, want)
		}
		if es, e := l.From(l.Base()); l.Base() != x.base || revs(es) != x.all || e != api.OK || l.Last() != 9 {
			t.Errorf("P6.1: Cut %v: Base %d, Last %d, %s", x.revs, l.Base(), l.Last(), revs(es))
		}
		// What was cut makes room; Last stays the bound of what comes.
		for _, list := range [][]int64{{9}, {8}, {10, 10}, {12, 13, 14, 15, 16}} {
			if l.Add(at(list...)...) != want.add(at(list...)) {
				t.Errorf("P6.1: Cut %v: Add of %v", x.revs, list)
			}
			ask(t, fmt.Sprint("Cut ", x.revs, ", with ", list), l, want)
		}
	}
}

func TestCutOfEmptyLog(t *testing.T) {
	for _, rev := range []int64{math.MinInt64, -1, 0, 1, 5, math.MaxInt64} {
		// One to which nothing was added, one that holds nothing any more.
		l, want := full(t, 2)
		l.Cut(rev)
		ask(t, fmt.Sprint("Cut ", rev, " of a new log"), l, want)
		if !l.Add(at(1)...) || !want.add(at(1)) {
			t.Errorf("P6.1: Cut(%d) of a new log: Add: false", rev)
		}
		ask(t, fmt.Sprint("Cut ", rev, " of a new log, with 1"), l, want)
		l, want = full(t, 2, []int64{4, 4, 4})
		l.Cut(rev)
		ask(t, fmt.Sprint("Cut ", rev, " of an empty log"), l, want)
	}
}

func TestNilLog(t *testing.T) {
	var l *log.Log
	for _, rev := range []int64{math.MinInt64, -1, 0, 1, math.MaxInt64} {
		if es, e := l.From(rev); es != nil || e != api.ErrOff {
			t.Errorf("P6.1: From(%d) of nil: %v, %d", rev, es, e)
		}
		l.Cut(rev)
		if l.Add(at(rev)...) {
			t.Errorf("P6.1: Add of %d to nil: true", rev)
		}
		if l.Base() != 0 || l.Last() != 0 {
			t.Errorf("P6.1: Base %d, Last %d of nil", l.Base(), l.Last())
		}
	}
	if l.Add() || l.Add(nil...) || l.Add(at(1, 2, 3)...) {
		t.Error("P6.1: Add to nil: true")
	}
}

// coin throws numbers, always the same ones.
type coin uint64

// of is a number from 0 to k less one.
func (c *coin) of(k int) int {
	*c = *c*6364136223846793005 + 1442695040888963407
	return int(*c>>33) % k
}

func TestAnyCalls(t *testing.T) {
	c := coin(3)
	for _, most := range []int{1, 2, 3, 7, 20} {
		for range 60 {
			l, want := full(t, most)
			did := fmt.Sprint("New ", most)
			for range 40 {
				if c.of(6) == 0 {
					rev := want.last + int64(c.of(12)) - 9
					l.Cut(rev)
					want.cut(rev)
					did += fmt.Sprint(", Cut ", rev)
					ask(t, did, l, want)
					continue
				}
				rev := want.last + int64(c.of(8)) - 1
				var list []int64
				for range c.of(9) {
					list = append(list, rev)
					rev += int64(max(0, c.of(5)-2))
					if c.of(40) == 0 {
						rev--
					}
				}
				did += fmt.Sprint(", Add ", list)
				if l.Add(at(list...)...) != want.add(at(list...)) {
					t.Fatalf("P6.1: %s", did)
				}
				ask(t, did, l, want)
			}
		}
	}
}

func TestMany(t *testing.T) {
	const many = 1 << 20
	es := make([]api.Event, many)
	for k := range es {
		es[k].Rev = int64(k/2 + 1)
	}
	l := log.New(1000)
	if !l.Add(es...) || l.Base() != many/2-500 || l.Last() != many/2 {
		t.Errorf("P6.1: with %d at once: Base %d, Last %d", many, l.Base(), l.Last())
	}
	for k := range many {
		if !l.Add(api.Event{Rev: int64(many + k)}) {
			t.Fatalf("P6.1: with %d one by one: false", k)
		}
	}
	if es, e := l.From(2*many - 11); len(es) != 10 || e != api.OK || l.Base() != 2*many-1001 {
		t.Errorf("P6.1: with %d one by one: %d, %d, Base %d", many, len(es), e, l.Base())
	}
}
