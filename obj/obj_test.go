package obj_test

import (
	"fmt"
	"math"
	"reflect"
	"slices"
	"strings"
	"testing"

	"interrex/api"
	"interrex/obj"
)

// most is the greatest amount of one resource.
const most = 1000000000

// A text, and whether it is a name. Each one that is not empty begins with m.
var texts = []struct {
	text string
	name bool
}{
	{"m", true}, {"m-0", true}, {"mnopqrstuvwx", true}, {"mnopqrstuvwxy", false}, {"", false},
	{"m.", false}, {"mM", false}, {"m ", false}, {"m_", false}, {"m`", false}, {"m{", false}, {"m/", false}, {"m:", false}, {"m\x00", false}, {"m\xff", false}, {"mä", false},
	{"m" + strings.Repeat("n", 1<<16), false},
}

// Amounts of one resource, and whether an object may have them.
var amounts = []struct {
	amount int64
	may    bool
}{
	{0, true}, {1, true}, {most - 1, true}, {most, true},
	{most + 1, false}, {-1, false}, {1 << 32, false}, {1 << 62, false}, {math.MaxInt64, false}, {math.MinInt64, false},
}

// pod is one that has everything, two of each list at least.
func pod() api.Pod {
	return api.Pod{
		Name: "web-1", Uid: 7, Prio: 3, Req: api.Res{2, 3, 4}, Ports: []int{80, 443, 8080},
		Labels: []api.Pair{{Key: "app", Val: "web"}, {Key: "tier", Val: "front"}},
		Sel:    []api.Term{{Key: "zone", Kind: api.In, Vals: []string{"a", "b"}}, {Key: "disk", Kind: api.Exists}},
		Tols:   []api.Toler{{Any: true}, {Key: "spot", Val: "yes"}},
		Topo:   "zone",
		Anti:   []api.Term{{Key: "app", Kind: api.In, Vals: []string{"web", "db"}}, {Key: "old", Kind: api.Absent}},
		Skew:   2,
		Even:   []api.Term{{Key: "app", Kind: api.NotIn, Vals: []string{"y", "z"}}, {Key: "tier", Kind: api.Exists}},
		Node:   "n1", Term: 9,
	}
}

// node is one that has everything, two of each list.
func node() api.Node {
	return api.Node{
		Name: "n1", Cap: api.Res{10, 20, 30},
		Labels: []api.Pair{{Key: "disk", Val: "ssd"}, {Key: "zone", Val: "a"}},
		Taints: []api.Taint{{Key: "gpu", Val: "old"}, {Key: "spot", Val: "yes"}},
	}
}

// askPod says whether pod, turned so, may be as it is asked to.
func askPod(t *testing.T, what string, want bool, turn func(p *api.Pod)) {
	t.Helper()
	p := pod()
	turn(&p)
	if got := obj.MayPod(p); got != want {
		t.Errorf("P4.1: MayPod with %.80s = %v", what, got)
	}
}

// askNode says whether node, turned so, may be as it is asked to.
func askNode(t *testing.T, what string, want bool, turn func(n *api.Node)) {
	t.Helper()
	n := node()
	turn(&n)
	if got := obj.MayNode(n); got != want {
		t.Errorf("P4.1: MayNode with %.80s = %v", what, got)
	}
}

func TestMayPodOrdinary(t *testing.T) {
	if !obj.MayPod(pod()) || !obj.MayPod(api.Pod{Name: "a", Uid: 1}) {
		t.Error("P4.1: MayPod of what may be")
	}
	if obj.MayPod(api.Pod{}) || obj.MayPod(api.Pod{Name: "a"}) || obj.MayPod(api.Pod{Uid: 1}) {
		t.Error("P4.1: MayPod without a Name or a Uid")
	}
	empty := api.Pod{Name: "a", Uid: 1, Ports: []int{}, Labels: []api.Pair{}, Sel: []api.Term{}, Tols: []api.Toler{}, Anti: []api.Term{}, Even: []api.Term{}}
	if !obj.MayPod(empty) {
		t.Error("P0.4: MayPod of empty lists")
	}
	askPod(t, "no list", true, func(p *api.Pod) { p.Ports, p.Labels, p.Sel, p.Tols, p.Anti, p.Even = nil, nil, nil, nil, nil, nil })
}

func TestMayPodName(t *testing.T) {
	for _, x := range texts {
		askPod(t, fmt.Sprintf("the Name %.20q", x.text), x.name, func(p *api.Pod) { p.Name = x.text })
	}
}

func TestMayPodNumbers(t *testing.T) {
	for _, x := range []struct {
		uid  int64
		want bool
	}{
		{1, true}, {2, true}, {1<<40 - 1, true}, {1 << 40, true},
		{0, false}, {-1, false}, {1<<40 + 1, false}, {1 << 41, false}, {1 << 62, false}, {math.MaxInt64, false}, {math.MinInt64, false},
	} {
		askPod(t, fmt.Sprint("the Uid ", x.uid), x.want, func(p *api.Pod) { p.Uid = x.uid })
	}
	for _, x := range []struct {
		prio int
		want bool
	}{
		{0, true}, {1, true}, {999, true}, {1000, true}, {-1, false}, {1001, false}, {1 << 32, false}, {math.MaxInt, false}, {math.MinInt, false},
	} {
		askPod(t, fmt.Sprint("the Prio ", x.prio), x.want, func(p *api.Pod) { p.Prio = x.prio })
	}
	for _, x := range []struct {
		skew int
		want bool
	}{
		{0, true}, {1, true}, {9, true}, {10, true}, {-1, false}, {11, false}, {1 << 32, false}, {math.MaxInt, false}, {math.MinInt, false},
	} {
		askPod(t, fmt.Sprint("the Skew ", x.skew), x.want, func(p *api.Pod) { p.Skew = x.skew })
	}
	for _, x := range amounts {
		for k := range 3 {
			askPod(t, fmt.Sprint("the amount ", x.amount, " at ", k), x.may, func(p *api.Pod) { p.Req[k] = x.amount })
		}
	}
	askPod(t, "the greatest amounts", true, func(p *api.Pod) { p.Req = api.Res{most, most, most} })
}

func TestMayPodPorts(t *testing.T) {
	for _, x := range []struct {
		ports []int
		want  bool
	}{
		{nil, true}, {[]int{}, true}, {[]int{1}, true}, {[]int{65535}, true}, {[]int{1, 2}, true}, {[]int{1, 65535}, true}, {[]int{80, 443, 8080}, true},
		{[]int{0}, false}, {[]int{-1}, false}, {[]int{65536}, false}, {[]int{1<<32 + 80}, false}, {[]int{math.MaxInt}, false}, {[]int{math.MinInt}, false},
		{[]int{0, 1}, false}, {[]int{-1, 1}, false}, {[]int{1, 65536}, false}, {[]int{1, 0}, false}, {[]int{80, math.MinInt, 443}, false}, {[]int{80, math.MaxInt}, false},
		// They fall, or one is there twice: at the beginning, in between, at the end.
		{[]int{2, 1}, false}, {[]int{443, 80, 8080}, false}, {[]int{80, 8080, 443}, false}, {[]int{443, 8080, 80}, false},
		{[]int{80, 80}, false}, {[]int{80, 80, 443}, false}, {[]int{80, 443, 443}, false}, {[]int{80, 443, 80}, false}, {[]int{65535, 65535}, false},
		{[]int{1, 2, 3, 4, 5, 6}, true}, {[]int{1, 2, 3, 4, 5, 65535}, true}, {[]int{1, 2, 3, 4, 6, 5}, false}, {[]int{1, 2, 3, 4, 5, 5}, false}, {[]int{1, 2, 3, 4, 5, 65536}, false},
		{[]int{1, 2, 3, 4, 5, 6, 7}, false}, {[]int{1, 2, 3, 4, 5, 6, 7, 8}, false}, {make([]int, 1<<20), false},
	} {
		askPod(t, fmt.Sprint("the Ports ", x.ports[:min(len(x.ports), 9)]), x.want, func(p *api.Pod) { p.Ports = x.ports })
	}
}

// pairs are labels of these Keys, each of the Val v.
func pairs(keys ...string) []api.Pair {
	var l []api.Pair
	for _, key := range keys {
		l = append(l, api.Pair{Key: key, Val: "v"})
	}
	return l
}

// Lists of labels, and whether an object may have them.
var labels = []struct {
	l    []api.Pair
	want bool
}{
	{nil, true}, {[]api.Pair{}, true}, {pairs("a"), true}, {pairs("a", "b", "c"), true}, {pairs("a", "b", "c", "d", "e", "f"), true}, {pairs("mnopqrstuvwx"), true},
	{pairs("a", "b", "c", "d", "e", "f", "g"), false}, {pairs("b", "a"), false}, {pairs("a", "c", "b"), false}, {pairs("a", "a"), false}, {pairs("a", "b", "b"), false},
	{pairs(""), false}, {pairs("A"), false}, {pairs("a", "b", "cC"), false}, {pairs("mnopqrstuvwxy"), false},
	{[]api.Pair{{Key: "a"}}, false}, {[]api.Pair{{Key: "a", Val: "V"}}, false}, {[]api.Pair{{Key: "a", Val: "v"}, {Key: "b", Val: "mnopqrstuvwxy"}}, false}, {[]api.Pair{{}}, false},
}

func TestMayPodLabels(t *testing.T) {
	for _, x := range labels {
		askPod(t, fmt.Sprint("the Labels ", x.l), x.want, func(p *api.Pod) { p.Labels = x.l })
	}
}

func TestMayPodTerms(t *testing.T) {
	in, exists := api.Term{Key: "k", Kind: api.In, Vals: []string{"v"}}, api.Term{Key: "k", Kind: api.Exists}
	for _, x := range []struct {
		ts   []api.Term
		want bool
	}{
		{nil, true}, {[]api.Term{}, true}, {[]api.Term{in}, true}, {[]api.Term{exists}, true}, {[]api.Term{{Key: "k", Kind: api.NotIn, Vals: []string{"w", "v"}}, {Key: "a", Kind: api.Absent}}, true},
		{slices.Repeat([]api.Term{in}, 6), true}, {slices.Repeat([]api.Term{in}, 7), false}, {slices.Repeat([]api.Term{exists}, 7), false}, {make([]api.Term, 1<<16), false},
		{[]api.Term{{Key: "k", Kind: api.In, Vals: strings.Split("a b c d e f", " ")}}, true}, {[]api.Term{{Key: "k", Kind: api.In, Vals: strings.Split("a b c d e f g", " ")}}, false},
		{[]api.Term{{}}, false}, {[]api.Term{{Key: "k"}}, false}, {[]api.Term{{Key: "k", Kind: 5}}, false}, {[]api.Term{{Key: "k", Kind: -1, Vals: []string{"v"}}}, false},
		{[]api.Term{{Kind: api.Exists}}, false}, {[]api.Term{{Key: "K", Kind: api.Absent}}, false}, {[]api.Term{{Key: "mnopqrstuvwxy", Kind: api.Exists}}, false},
		{[]api.Term{{Key: "k", Kind: api.In}}, false}, {[]api.Term{{Key: "k", Kind: api.NotIn, Vals: []string{}}}, false}, {[]api.Term{{Key: "k", Kind: api.In, Vals: []string{"v", ""}}}, false}, {[]api.Term{{Key: "k", Kind: api.NotIn, Vals: []string{"V"}}}, false},
		{[]api.Term{{Key: "k", Kind: api.Exists, Vals: []string{"v"}}}, false}, {[]api.Term{{Key: "k", Kind: api.Absent, Vals: []string{"v"}}}, false}, {[]api.Term{{Key: "k", Kind: api.Absent, Vals: []string{}}}, true},
		{[]api.Term{in, exists, {}}, false}, {[]api.Term{{}, in}, false},
	} {
		what := fmt.Sprint(x.ts[:min(len(x.ts), 7)])
		askPod(t, "the Sel "+what, x.want, func(p *api.Pod) { p.Sel = x.ts })
		askPod(t, "the Anti "+what, x.want, func(p *api.Pod) { p.Anti = x.ts })
		askPod(t, "the Even "+what, x.want, func(p *api.Pod) { p.Even = x.ts })
		// Even is asked without a domain, too.
		askPod(t, "no Topo, and the Even "+what, x.want, func(p *api.Pod) { p.Topo, p.Anti, p.Skew, p.Even = "", nil, 0, x.ts })
	}
}

func TestMayPodTols(t *testing.T) {
	for _, x := range []struct {
		tols []api.Toler
		want bool
	}{
		{nil, true}, {[]api.Toler{}, true}, {[]api.Toler{{Any: true}}, true}, {[]api.Toler{{Key: "k", Any: true}}, true}, {[]api.Toler{{Val: "v"}}, true}, {[]api.Toler{{Key: "k", Val: "v"}, {Key: "a", Val: "v"}}, true},
		{slices.Repeat([]api.Toler{{Any: true}}, 6), true}, {slices.Repeat([]api.Toler{{Any: true}}, 7), false}, {make([]api.Toler, 1<<20), false},
		{[]api.Toler{{}}, false}, {[]api.Toler{{Key: "k"}}, false}, {[]api.Toler{{Key: "K", Any: true}}, false}, {[]api.Toler{{Key: "k", Val: "V"}}, false}, {[]api.Toler{{Key: "k", Val: "v", Any: true}}, false}, {[]api.Toler{{Any: true}, {}}, false}, {[]api.Toler{{Key: "mnopqrstuvwxy", Val: "v"}}, false},
	} {
		askPod(t, fmt.Sprint("the Tols ", x.tols[:min(len(x.tols), 7)]), x.want, func(p *api.Pod) { p.Tols = x.tols })
	}
}

func TestMayPodTopo(t *testing.T) {
	exists := []api.Term{{Key: "app", Kind: api.Exists}}
	for _, x := range texts {
		for _, anti := range [][]api.Term{nil, {}, exists} {
			for _, skew := range []int{-1, 0, 1, 10, 11} {
				for _, even := range [][]api.Term{nil, {}, exists} {
					none := len(anti) == 0 && skew == 0
					want := skew >= 0 && skew <= 10 && (x.name || x.text == "" && none)
					askPod(t, fmt.Sprintf("the Topo %.20q, %d Anti, Skew %d, %d Even", x.text, len(anti), skew, len(even)), want, func(p *api.Pod) { p.Topo, p.Anti, p.Skew, p.Even = x.text, anti, skew, even })
				}
			}
		}
	}
}

func TestMayPodNode(t *testing.T) {
	for _, x := range texts {
		for _, term := range []int64{math.MinInt64, -1 << 32, -1, 0, 1, 2, 1 << 40, 1 << 62, math.MaxInt64} {
			want := x.name && term > 0 || x.text == "" && term == 0
			askPod(t, fmt.Sprintf("the Node %.20q, Term %d", x.text, term), want, func(p *api.Pod) { p.Node, p.Term = x.text, term })
		}
	}
}

func TestMayNodeOrdinary(t *testing.T) {
	if !obj.MayNode(node()) || !obj.MayNode(api.Node{Name: "a"}) {
		t.Error("P4.1: MayNode of what may be")
	}
	if obj.MayNode(api.Node{}) || obj.MayNode(api.Node{Cap: api.Res{1, 1, 1}}) {
		t.Error("P4.1: MayNode without a Name")
	}
	if !obj.MayNode(api.Node{Name: "a", Labels: []api.Pair{}, Taints: []api.Taint{}}) {
		t.Error("P0.4: MayNode of empty lists")
	}
	for _, x := range texts {
		askNode(t, fmt.Sprintf("the Name %.20q", x.text), x.name, func(n *api.Node) { n.Name = x.text })
	}
	for _, x := range amounts {
		for k := range 3 {
			askNode(t, fmt.Sprint("the amount ", x.amount, " at ", k), x.may, func(n *api.Node) { n.Cap[k] = x.amount })
		}
	}
	askNode(t, "the greatest amounts", true, func(n *api.Node) { n.Cap = api.Res{most, most, most} })
}

func TestMayNodeLists(t *testing.T) {
	for _, x := range labels {
		askNode(t, fmt.Sprint("the Labels ", x.l), x.want, func(n *api.Node) { n.Labels = x.l })
		// Taints are taken as labels are.
		var ts []api.Taint
		for _, y := range x.l {
			ts = append(ts, api.Taint(y))
		}
		askNode(t, fmt.Sprint("the Taints ", ts), x.want, func(n *api.Node) { n.Taints = ts })
	}
	askNode(t, "no list", true, func(n *api.Node) { n.Labels, n.Taints = nil, nil })
}

// parts are an object's, in all its depth, and where each one is: its leaves, which are numbers, texts, bools, and its lists. All can be written to.
type parts struct {
	leaves, lists        []reflect.Value
	leafPaths, listPaths []string
}

// partsOf are all parts of what at points to, in an order that hangs on its shape alone; a list ahead of those in it.
func partsOf(at any) parts {
	var all parts
	all.walk(reflect.ValueOf(at).Elem(), "")
	return all
}

// walk adds all parts of v.
func (all *parts) walk(v reflect.Value, path string) {
	switch v.Kind() {
	case reflect.Struct:
		for k := range v.NumField() {
			all.walk(v.Field(k), path+"."+v.Type().Field(k).Name)
		}
	case reflect.Slice:
		all.lists, all.listPaths = append(all.lists, v), append(all.listPaths, path)
		fallthrough
	case reflect.Array:
		for k := range v.Len() {
			all.walk(v.Index(k), fmt.Sprintf("%s[%d]", path, k))
		}
	default:
		all.leaves, all.leafPaths = append(all.leaves, v), append(all.leafPaths, path)
	}
}

// bend makes another one of a leaf.
func bend(v reflect.Value) {
	switch v.Kind() {
	case reflect.String:
		v.SetString(v.String() + "q")
	case reflect.Bool:
		v.SetBool(!v.Bool())
	default:
		v.SetInt(v.Int() + 1)
	}
}

// reshapes make another list of one of two elements at least that are unlike.
var reshapes = []func(v reflect.Value){
	func(v reflect.Value) { v.SetZero() },
	func(v reflect.Value) { v.Set(v.Slice(0, v.Len()-1)) },
	func(v reflect.Value) { v.Set(v.Slice(1, v.Len())) },
	func(v reflect.Value) { v.Set(reflect.Append(v, v.Index(0))) },
	func(v reflect.Value) { v.Set(reflect.Append(v, reflect.Zero(v.Type().Elem()))) },
	func(v reflect.Value) { reflect.Swapper(v.Interface())(0, 1) },
}

// askEq tells of each part of an object that give gives, in all its depth, whether eq tells a change of it alone.
func askEq[T any](t *testing.T, name string, eq func(a, b T) bool, give func() T) {
	t.Helper()
	asked := func(what string, x T) {
		if eq(x, give()) || eq(give(), x) {
			t.Errorf("P4.1: %s of another %s", name, what)
		}
		if !eq(x, x) {
			t.Errorf("P4.1: %s of one and the same, %s", name, what)
		}
	}
	if !eq(give(), give()) {
		t.Errorf("P4.1: %s of two alike", name)
	}
	first := give()
	all := partsOf(&first)
	for k, path := range all.leafPaths {
		x := give()
		bend(partsOf(&x).leaves[k])
		asked(path, x)
	}
	for k, path := range all.listPaths {
		if all.lists[k].Len() < 2 {
			continue
		}
		for j, reshape := range reshapes {
			x := give()
			reshape(partsOf(&x).lists[k])
			asked(fmt.Sprintf("%s, %d", path, j), x)
		}
	}
}

func TestEqEachPart(t *testing.T) {
	askEq(t, "EqPod", obj.EqPod, pod)
	askEq(t, "EqNode", obj.EqNode, node)
	askEq(t, "EqPod", obj.EqPod, wrongPod)
	askEq(t, "EqNode", obj.EqNode, wrongNode)
}

// wrongPod is one of which no part may be.
func wrongPod() api.Pod {
	return api.Pod{
		Name: "\xff", Uid: math.MinInt64, Prio: math.MinInt, Req: api.Res{-1, math.MinInt64, 1 << 62}, Ports: []int{9, -9},
		Labels: []api.Pair{{Key: "z"}, {Key: "a", Val: "A"}}, Sel: wrongTerms(), Tols: []api.Toler{{}, {Any: true, Val: "V"}},
		Topo: " ", Anti: wrongTerms(), Skew: -1, Even: wrongTerms(), Node: "N", Term: -1,
	}
}

// wrongTerms are two of which no part may be.
func wrongTerms() []api.Term {
	return []api.Term{{Key: "K", Kind: -1, Vals: []string{"", "V"}}, {Key: "\xff", Kind: math.MinInt, Vals: []string{"\x00", "\x00\x00"}}}
}

// wrongNode is one of which no part may be.
func wrongNode() api.Node {
	return api.Node{Name: "", Cap: api.Res{-1, math.MinInt64, 1 << 62}, Labels: []api.Pair{{Key: "z"}, {Key: "a", Val: "A"}}, Taints: []api.Taint{{Key: "\xff"}, {}}}
}

func TestEqPartsDoNotRun(t *testing.T) {
	// What is at another place is another one, though it reads alike.
	terms := []api.Term{{Key: "k", Kind: api.Exists}}
	for _, x := range [][2]api.Pod{
		{{Name: "a"}, {Topo: "a"}}, {{Name: "a"}, {Node: "a"}}, {{Topo: "a"}, {Node: "a"}}, {{Name: "ab"}, {Name: "a", Topo: "b"}},
		{{Uid: 1}, {Term: 1}}, {{Prio: 1}, {Skew: 1}}, {{Uid: 1}, {Req: api.Res{1}}}, {{Req: api.Res{1, 0, 0}}, {Req: api.Res{0, 1, 0}}}, {{Uid: 1}, {Ports: []int{1}}},
		{{Sel: terms}, {Anti: terms}}, {{Sel: terms}, {Even: terms}}, {{Anti: terms}, {Even: terms}},
		{{Labels: []api.Pair{{Key: "a", Val: "b"}}}, {Labels: []api.Pair{{Key: "b", Val: "a"}}}}, {{Labels: []api.Pair{{Key: "ab"}}}, {Labels: []api.Pair{{Key: "a", Val: "b"}}}},
		{{Labels: []api.Pair{{Key: "a", Val: "b"}}}, {Tols: []api.Toler{{Key: "a", Val: "b"}}}}, {{Tols: []api.Toler{{Key: "a"}}}, {Tols: []api.Toler{{Val: "a"}}}},
		{{Sel: []api.Term{{Key: "k", Vals: []string{"ab"}}}}, {Sel: []api.Term{{Key: "k", Vals: []string{"a", "b"}}}}}, {{Sel: []api.Term{{Key: "k"}}}, {Sel: []api.Term{{Vals: []string{"k"}}}}},
		// One that is empty, or zero, is one more.
		{{}, {Ports: []int{0}}}, {{}, {Labels: []api.Pair{{}}}}, {{}, {Sel: []api.Term{{}}}}, {{}, {Tols: []api.Toler{{}}}}, {{}, {Anti: []api.Term{{}}}}, {{}, {Even: []api.Term{{}}}}, {{Even: []api.Term{{}}}, {Even: []api.Term{{Vals: []string{""}}}}},
	} {
		if obj.EqPod(x[0], x[1]) || obj.EqPod(x[1], x[0]) {
			t.Errorf("P4.1: EqPod of %v and %v", x[0], x[1])
		}
	}
	for _, x := range [][2]api.Node{
		{{Labels: []api.Pair{{Key: "a", Val: "b"}}}, {Taints: []api.Taint{{Key: "a", Val: "b"}}}}, {{Cap: api.Res{1, 0, 0}}, {Cap: api.Res{0, 0, 1}}}, {{Name: "a"}, {}},
		{{Taints: []api.Taint{{Key: "ab"}}}, {Taints: []api.Taint{{Key: "a", Val: "b"}}}}, {{}, {Labels: []api.Pair{{}}}}, {{}, {Taints: []api.Taint{{}}}},
	} {
		if obj.EqNode(x[0], x[1]) || obj.EqNode(x[1], x[0]) {
			t.Errorf("P4.1: EqNode of %v and %v", x[0], x[1])
		}
	}
}

func TestEqNilLikeEmpty(t *testing.T) {
	// A list goes from nil to empty alone, and beside what else the object has.
	p := pod()
	for k, path := range partsOf(&p).listPaths {
		if strings.Contains(path, "[") {
			continue
		}
		none, empty := pod(), pod()
		partsOf(&none).lists[k].SetZero()
		list := partsOf(&empty).lists[k]
		list.Set(list.Slice(0, 0))
		if !obj.EqPod(none, empty) || !obj.EqPod(empty, none) || obj.EqPod(empty, pod()) {
			t.Errorf("P4.1: EqPod of nil and empty %s", path)
		}
	}
	vals := func(vals []string) api.Pod {
		ts := []api.Term{{Key: "k", Kind: api.Exists, Vals: vals}}
		return api.Pod{Sel: ts, Anti: ts, Even: ts}
	}
	if !obj.EqPod(vals(nil), vals([]string{})) || !obj.EqPod(vals(make([]string, 0, 9)), vals(nil)) || obj.EqPod(vals(nil), vals([]string{""})) {
		t.Error("P4.1: EqPod of nil and empty Vals")
	}
	if !obj.EqNode(api.Node{Labels: []api.Pair{}}, api.Node{Taints: []api.Taint{}}) || !obj.EqNode(api.Node{}, api.Node{Labels: make([]api.Pair, 0, 9), Taints: make([]api.Taint, 0, 9)}) {
		t.Error("P4.1: EqNode of nil and empty lists")
	}
	if !obj.EqPod(api.Pod{}, api.Pod{}) || !obj.EqNode(api.Node{}, api.Node{}) {
		t.Error("P4.1: EqPod, EqNode of nothing")
	}
}

func TestEqSpareRoom(t *testing.T) {
	// What stands behind a list's end is no part of it.
	a, b := pod(), pod()
	a.Ports, a.Labels, a.Sel = append(make([]int, 0, 99), a.Ports...), append(a.Labels, api.Pair{Key: "z"})[:2], append(a.Sel, api.Term{Key: "z"})[:2]
	if !obj.EqPod(a, b) || !obj.EqPod(b, a) {
		t.Error("P4.1: EqPod asks spare room")
	}
}

func TestEqOfMany(t *testing.T) {
	long := func(last string) api.Pod {
		ts := slices.Repeat([]api.Term{{Key: "k", Kind: api.In, Vals: slices.Repeat([]string{"v"}, 100)}}, 10000)
		return api.Pod{Even: append(ts, api.Term{Vals: append(slices.Repeat([]string{"v"}, 1<<16), last)})}
	}
	if !obj.EqPod(long("v"), long("v")) || obj.EqPod(long("v"), long("w")) {
		t.Error("P4.1: EqPod of many")
	}
}

// fill writes to each leaf of what at points to, and to all spare room of its lists.
func fill(at any) {
	all := partsOf(at)
	for _, v := range all.leaves {
		bend(v)
	}
	for _, v := range all.lists {
		spare := v.Slice(0, v.Cap())
		for k := v.Len(); k < v.Cap(); k++ {
			spare.Index(k).Set(one(v.Type().Elem()))
		}
	}
}

// one is an element of that type that is not zero.
func one(of reflect.Type) reflect.Value {
	v := reflect.New(of).Elem()
	if of.Kind() == reflect.Struct {
		bend(v.Field(0))
	} else {
		bend(v)
	}
	return v
}

// roomy gives each list of what at points to spare room.
func roomy(at any) {
	// The lists in a list come first, because it moves.
	for _, v := range slices.Backward(partsOf(at).lists) {
		wide := reflect.MakeSlice(v.Type(), v.Len(), v.Len()+3)
		reflect.Copy(wide, v)
		v.Set(wide)
	}
}

// askRoom tells of each list of what at points to whether its spare room is as roomy made it.
func askRoom(t *testing.T, name string, at any) {
	t.Helper()
	all := partsOf(at)
	for k, v := range all.lists {
		if v.Cap() != v.Len()+3 {
			t.Errorf("P0.3: %s: another list at %s", name, all.listPaths[k])
		}
		for j := v.Len(); j < v.Cap(); j++ {
			if !v.Slice(0, v.Cap()).Index(j).IsZero() {
				t.Errorf("P0.3: %s: written behind the end of %s", name, all.listPaths[k])
			}
		}
	}
}

// askCopy tells of an object that give gives whether its copy is like it, and shares nothing with it or with another copy.
func askCopy[T any](t *testing.T, name string, copied func(T) T, eq func(a, b T) bool, give func() T) {
	t.Helper()
	x := give()
	roomy(&x)
	c, d := copied(x), copied(x)
	if !eq(c, give()) || !eq(d, give()) || !eq(x, give()) {
		t.Errorf("P4.1: %s makes %v of %v", name, c, x)
	}
	fill(&c)
	if eq(c, give()) || !eq(x, give()) || !eq(d, give()) {
		t.Errorf("P4.1: %s: who writes to the copy makes %v, %v", name, x, d)
	}
	askRoom(t, name, &x)
	fill(&x)
	if eq(x, give()) || !eq(d, give()) {
		t.Errorf("P4.1: %s: who writes to what it is of makes %v", name, d)
	}
}

func TestCopyEachPart(t *testing.T) {
	for _, give := range []func() api.Pod{pod, podOfVals, wrongPod, func() api.Pod { return api.Pod{} }} {
		askCopy(t, "CopyPod", obj.CopyPod, obj.EqPod, give)
	}
	for _, give := range []func() api.Node{node, wrongNode, func() api.Node { return api.Node{} }} {
		askCopy(t, "CopyNode", obj.CopyNode, obj.EqNode, give)
	}
}

// podOfVals is pod, with Vals in each of its terms.
func podOfVals() api.Pod {
	p := pod()
	for _, ts := range [][]api.Term{p.Sel, p.Anti, p.Even} {
		for k := range ts {
			ts[k].Vals = []string{"t", "u", "v"}
		}
	}
	return p
}

func TestCopyOfEmpty(t *testing.T) {
	// nil and empty are the same, also as a part of a part.
	p := api.Pod{Ports: []int{}, Labels: []api.Pair{}, Sel: []api.Term{{Vals: []string{}}, {}}, Tols: []api.Toler{}, Anti: []api.Term{}, Even: []api.Term{}}
	if c := obj.CopyPod(p); !obj.EqPod(c, p) || !obj.EqPod(c, api.Pod{Sel: make([]api.Term, 2)}) {
		t.Errorf("P4.1: CopyPod of empty lists makes %v", c)
	}
	n := api.Node{Labels: []api.Pair{}, Taints: []api.Taint{}}
	if c := obj.CopyNode(n); !obj.EqNode(c, api.Node{}) {
		t.Errorf("P4.1: CopyNode of empty lists makes %v", c)
	}
}

func TestCopyOfEmptyWithRoom(t *testing.T) {
	// Behind the end of an empty list there may be room of somebody's.
	ports, labels, vals, taints := [3]int{}, [3]api.Pair{}, [3]string{}, [3]api.Taint{}
	terms, tols := [3]api.Term{{Vals: vals[:0]}}, [3]api.Toler{}
	c := obj.CopyPod(api.Pod{Ports: ports[:0], Labels: labels[:0], Sel: terms[:1], Tols: tols[:0], Anti: terms[1:1], Even: terms[2:2]})
	d := obj.CopyNode(api.Node{Labels: labels[:0], Taints: taints[:0]})
	c.Sel[0].Vals = append(c.Sel[0].Vals, "q")
	c.Ports, c.Labels, c.Tols, c.Anti, c.Even = append(c.Ports, 1), append(c.Labels, api.Pair{Key: "q"}), append(c.Tols, api.Toler{Any: true}), append(c.Anti, api.Term{Key: "q"}), append(c.Even, api.Term{Key: "q"})
	d.Labels, d.Taints = append(d.Labels, api.Pair{Key: "q"}), append(d.Taints, api.Taint{Key: "q"})
	if ports != [3]int{} || labels != [3]api.Pair{} || vals != [3]string{} || taints != [3]api.Taint{} || tols != [3]api.Toler{} || terms[1].Key != "" || terms[2].Key != "" {
		t.Errorf("P0.3: made %v, %v, %v, %v, %v, %v", ports, labels, vals, taints, terms, tols)
	}
}

func TestCopyPartsShareNothing(t *testing.T) {
	// What has one and the same list several times gets a copy with several.
	vals := []string{"u", "v"}
	ts := []api.Term{{Key: "j", Kind: api.In, Vals: vals}, {Key: "k", Kind: api.NotIn, Vals: vals}}
	c := obj.CopyPod(api.Pod{Name: "a", Uid: 1, Sel: ts, Topo: "t", Anti: ts, Even: ts})
	terms := []*api.Term{&c.Sel[0], &c.Sel[1], &c.Anti[0], &c.Anti[1], &c.Even[0], &c.Even[1]}
	for k, x := range terms {
		x.Key, x.Vals[0] = fmt.Sprint(k), fmt.Sprint(k)
	}
	for k, x := range terms {
		if x.Key != fmt.Sprint(k) || x.Vals[0] != fmt.Sprint(k) {
			t.Errorf("P0.3: CopyPod's parts share: %v", c)
		}
	}
	if vals[0] != "u" || ts[0].Key != "j" || ts[1].Key != "k" {
		t.Errorf("P0.3: made %v", ts)
	}
}

func TestListsStay(t *testing.T) {
	p, n := pod(), node()
	roomy(&p)
	roomy(&n)
	obj.MayPod(p)
	obj.EqPod(p, p)
	obj.CopyPod(p)
	obj.MayNode(n)
	obj.EqNode(n, n)
	obj.CopyNode(n)
	askRoom(t, "a call", &p)
	askRoom(t, "a call", &n)
	if !obj.EqPod(p, pod()) || !obj.EqNode(n, node()) {
		t.Errorf("P0.3: made %v, %v", p, n)
	}
}
