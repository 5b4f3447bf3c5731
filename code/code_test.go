package code_test

import (
	"bytes"
	"fmt"
	"math"
	"reflect"
	"slices"
	"strings"
	"testing"

	"interrex/api"
	"interrex/code"
	"interrex/obj"
)

// most is the greatest amount of one resource.
const most = 1000000000

// pod is one that has everything, two of each list at least.
func pod() api.Pod {
	return api.Pod{
		Name: "web-1", Uid: 7, Prio: 3, Req: api.Res{2, 3, 4}, Ports: []int{80, 443, 8080},
		Labels: []api.Pair{{Key: "app", Val: "web"}, {Key: "tier", Val: "front"}},
		Sel:    []api.Term{{Key: "zone", Kind: api.In, Vals: []string{"a", "b"}}, {Key: "disk", Kind: api.Exists}},
		Tols:   []api.Toler{{Any: true}, {Key: "spot", Val: "yes"}, {Val: "yes"}},
		Topo:   "zone",
		Anti:   []api.Term{{Key: "app", Kind: api.In, Vals: []string{"web", "db"}}, {Key: "old", Kind: api.Absent}},
		Skew:   2,
		Even:   []api.Term{{Key: "app", Kind: api.NotIn, Vals: []string{"y", "z"}}, {Key: "tier", Kind: api.Exists}},
		Node:   "n1", Term: 9,
	}
}

// fewPod is a pod that has no more than it must.
func fewPod() api.Pod {
	return api.Pod{Name: "a", Uid: 1}
}

// unbound is pod before it is placed.
func unbound() api.Pod {
	p := pod()
	p.Node, p.Term = "", 0
	return p
}

// long is the greatest name that ends so.
func long(end string) string {
	return strings.Repeat("-", api.MaxName-len(end)) + end
}

// sixTerms are the greatest terms that may be.
func sixTerms() []api.Term {
	var ts []api.Term
	for range 6 {
		ts = append(ts, api.Term{Key: long("-"), Kind: api.NotIn, Vals: []string{long("a"), long("b"), long("c"), long("-"), long("-"), long("0")}})
	}
	return ts
}

// sixPairs are the greatest labels that may be.
func sixPairs() []api.Pair {
	var l []api.Pair
	for _, end := range []string{"-", "0", "a", "b", "y", "z"} {
		l = append(l, api.Pair{Key: long(end), Val: long("-")})
	}
	return l
}

// greatPod is the greatest pod that may be.
func greatPod() api.Pod {
	return api.Pod{
		Name: long("-"), Uid: 1 << 40, Prio: 1000, Req: api.Res{most, most, most}, Ports: []int{65530, 65531, 65532, 65533, 65534, 65535},
		Labels: sixPairs(), Sel: sixTerms(), Tols: slices.Repeat([]api.Toler{{Key: long("-"), Val: long("-")}}, 6),
		Topo: long("-"), Anti: sixTerms(), Skew: 10, Even: sixTerms(), Node: long("-"), Term: math.MaxInt64,
	}
}

// node is one that has everything, two of each list.
func node() api.Node {
	return api.Node{
		Name: "n1", Cap: api.Res{10, 20, 30},
		Labels: []api.Pair{{Key: "disk", Val: "ssd"}, {Key: "zone", Val: "a"}},
		Taints: []api.Taint{{Key: "gpu", Val: "old"}, {Key: "spot", Val: "yes"}},
	}
}

// greatNode is the greatest node that may be.
func greatNode() api.Node {
	n := api.Node{Name: long("-"), Cap: api.Res{most, most, most}, Labels: sixPairs()}
	for _, x := range sixPairs() {
		n.Taints = append(n.Taints, api.Taint(x))
	}
	return n
}

// lease is an ordinary one.
func lease() api.Lease {
	return api.Lease{Holder: 3, Dur: 1000}
}

// eqLease says whether a and b are the same.
func eqLease(a, b api.Lease) bool {
	return a == b
}

// way is how one kind of object is written, read, held against another.
type way[T any] struct {
	name string
	put  func(T) []byte
	get  func([]byte) (T, bool)
	eq   func(a, b T) bool
}

var (
	pods   = way[api.Pod]{"Pod", code.PutPod, code.GetPod, obj.EqPod}
	nodes  = way[api.Node]{"Node", code.PutNode, code.GetNode, obj.EqNode}
	leases = way[api.Lease]{"Lease", code.PutLease, code.GetLease, eqLease}
)

// askBack asks x there and back, and tells its bytes.
func (w way[T]) askBack(t *testing.T, x T) []byte {
	t.Helper()
	b := w.put(x)
	if len(b) == 0 || len(b) > api.MaxVal {
		t.Errorf("P5.1: Put%s makes %d bytes of %v", w.name, len(b), x)
	}
	if y, ok := w.get(b); !ok || !w.eq(y, x) {
		t.Errorf("P5.1: Get%s makes %v, %v of %v", w.name, y, ok, x)
	}
	return b
}

// askNone asks that x, which may not be, has no bytes.
func (w way[T]) askNone(t *testing.T, x T) {
	t.Helper()
	if b := w.put(x); b != nil {
		t.Errorf("P5.1: Put%s makes %d bytes of %.300v", w.name, len(b), fmt.Sprint(x))
	}
	w.askNot(t, "what was put of what may not be", w.put(x))
}

// askNot asks that b are no object's bytes.
func (w way[T]) askNot(t *testing.T, what string, b []byte) {
	t.Helper()
	var zero T
	if x, ok := w.get(b); ok || !w.eq(x, zero) {
		t.Errorf("P5.1: Get%s makes %v, %v of %s", w.name, x, ok, what)
	}
}

// askAny asks that b are no object's bytes, or just those of what is told, and tells which.
func (w way[T]) askAny(t *testing.T, what string, b []byte) bool {
	t.Helper()
	x, ok := w.get(b)
	if !ok {
		w.askNot(t, what, b)
		return false
	}
	if !bytes.Equal(w.put(x), b) {
		t.Errorf("P5.1: Get%s makes %v of %s, which are not its bytes", w.name, x, what)
	}
	return true
}

// askAnyOfAll asks b as the bytes of each kind, and that they are not those of two.
func askAnyOfAll(t *testing.T, what string, b []byte) {
	t.Helper()
	p, n, l := pods.askAny(t, what, b), nodes.askAny(t, what, b), leases.askAny(t, what, b)
	if p && n || p && l || n && l {
		t.Errorf("P5.1: %s are bytes of two kinds: %v", what, b)
	}
}

func TestThereAndBack(t *testing.T) {
	for _, p := range []api.Pod{fewPod(), pod(), unbound(), greatPod()} {
		pods.askBack(t, p)
	}
	for _, n := range []api.Node{{Name: "a"}, node(), greatNode()} {
		nodes.askBack(t, n)
	}
	for _, l := range []api.Lease{lease(), {Holder: 0, Dur: 1}, {Holder: 7, Dur: 1 << 40}} {
		leases.askBack(t, l)
	}
}

func TestNamesThereAndBack(t *testing.T) {
	const letters = "abcdefghijklmnopqrstuvwxyz0123456789-"
	names := []string{}
	for _, c := range letters {
		for n := range api.MaxName {
			names = append(names, strings.Repeat(string(c), n+1))
		}
		for k := range api.MaxName {
			names = append(names, letters[:k]+string(c)+letters[k+1:api.MaxName])
		}
		for _, d := range letters {
			names = append(names, string(c)+string(d), string(c)+"mm"+string(d))
		}
	}
	slices.Sort(names)
	seen := map[string]string{}
	for _, name := range slices.Compact(names) {
		b := string(pods.askBack(t, api.Pod{Name: name, Uid: 1}))
		if was, is := seen[b]; is {
			t.Errorf("P5.1: %q and %q have the same bytes", was, name)
		}
		seen[b] = name
		pods.askBack(t, api.Pod{Name: "a", Uid: 1, Topo: name, Node: name, Term: 1, Tols: []api.Toler{{Key: name, Any: true}, {Val: name}}})
	}
}

func TestNumbersThereAndBack(t *testing.T) {
	for _, x := range []int64{1, 2, 37, 127, 128, 255, 256, 257, 1<<16 - 1, 1 << 16, 1<<24 + 1, 1<<32 - 1, 1 << 32, 1<<32 + 1, 1<<40 - 1, 1 << 40} {
		pods.askBack(t, api.Pod{Name: "a", Uid: x})
		pods.askBack(t, api.Pod{Name: "a", Uid: 1, Node: "n", Term: x})
		leases.askBack(t, api.Lease{Holder: int(x % 8), Dur: x})
		pods.askBack(t, api.Pod{Name: "a", Uid: 1, Prio: int(x % 1001), Req: api.Res{x % most, (x + 1) % most, x % 3}, Ports: []int{int(x%65534) + 1, 65535}})
		nodes.askBack(t, api.Node{Name: "a", Cap: api.Res{x % 3, x % most, (x + 1) % most}})
	}
	// A pod's Term has no upper end but int64's.
	for _, x := range []int64{1<<40 + 1, 1<<48 + 1, 1<<56 + 1, 1 << 62, math.MaxInt64 - 1, math.MaxInt64} {
		pods.askBack(t, api.Pod{Name: "a", Uid: 1, Node: "n", Term: x})
	}
}

func TestEachLengthOfList(t *testing.T) {
	g := greatPod()
	for n := range 7 {
		pods.askBack(t, api.Pod{Name: "a", Uid: 1, Ports: g.Ports[:n]})
		pods.askBack(t, api.Pod{Name: "a", Uid: 1, Labels: g.Labels[:n]})
		pods.askBack(t, api.Pod{Name: "a", Uid: 1, Sel: g.Sel[:n], Tols: g.Tols[n:]})
		pods.askBack(t, api.Pod{Name: "a", Uid: 1, Topo: "t", Anti: g.Anti[:n], Even: g.Even[n:]})
		if n > 0 {
			pods.askBack(t, api.Pod{Name: "a", Uid: 1, Even: []api.Term{{Key: "k", Kind: api.In, Vals: g.Sel[0].Vals[:n]}}})
		}
		nodes.askBack(t, api.Node{Name: "a", Labels: g.Labels[n:], Taints: greatNode().Taints[:n]})
	}
}

// parts are an object's, in all its depth, and where each one is: its leaves, which are numbers, texts, bools, and its lists. All can be written to.
type parts struct {
	leaves, lists        []reflect.Value
	leafPaths, listPaths []string
}

// partsOf are all parts of what at points to, in an order that hangs on its shape alone; a list ahead of those in it.
func partsOf(at any) parts {
	var all parts
	all.walk(reflect.ValueOf(at).Elem(), "")
	return all
}

// walk adds all parts of v.
func (all *parts) walk(v reflect.Value, path string) {
	switch v.Kind() {
	case reflect.Struct:
		for k := range v.NumField() {
			all.walk(v.Field(k), path+"."+v.Type().Field(k).Name)
		}
	case reflect.Slice:
		all.lists, all.listPaths = append(all.lists, v), append(all.listPaths, path)
		fallthrough
	case reflect.Array:
		for k := range v.Len() {
			all.walk(v.Index(k), fmt.Sprintf("%s[%d]", path, k))
		}
	default:
		all.leaves, all.leafPaths = append(all.leaves, v), append(all.leafPaths, path)
	}
}

// bends make other ones of a leaf.
var bends = []func(v reflect.Value){
	func(v reflect.Value) {
		switch v.Kind() {
		case reflect.String:
			v.SetString(v.String() + "q")
		case reflect.Bool:
			v.SetBool(!v.Bool())
		default:
			v.SetInt(v.Int() + 1)
		}
	},
	func(v reflect.Value) {
		switch v.Kind() {
		case reflect.String:
			v.SetString("q" + v.String())
		case reflect.Bool:
			v.SetBool(!v.Bool())
		default:
			v.SetInt(v.Int() - 1)
		}
	},
	func(v reflect.Value) {
		if v.Kind() == reflect.String {
			v.SetString(v.String()[:max(0, v.Len()-1)])
		}
	},
	func(v reflect.Value) {
		if v.Kind() == reflect.String {
			v.SetString(v.String()[min(1, v.Len()):])
		}
	},
}

// reshapes make another list of one of two elements at least that are unlike.
var reshapes = []func(v reflect.Value){
	func(v reflect.Value) { v.SetZero() },
	func(v reflect.Value) { v.Set(v.Slice(0, v.Len()-1)) },
	func(v reflect.Value) { v.Set(v.Slice(1, v.Len())) },
	func(v reflect.Value) { v.Set(reflect.Append(v, v.Index(0))) },
	func(v reflect.Value) { reflect.Swapper(v.Interface())(0, 1) },
}

// askEachPart turns each part of an object that give gives, in all its depth, alone: it has other bytes than all others, or none, if it may not be.
func askEachPart[T any](t *testing.T, w way[T], may func(T) bool, give func() T) {
	t.Helper()
	seen := map[string]T{string(w.askBack(t, give())): give()}
	turned := func(path string, x T) bool {
		if w.eq(x, give()) {
			return false
		}
		if !may(x) {
			w.askNone(t, x)
			return false
		}
		b := string(w.askBack(t, x))
		if was, is := seen[b]; is && !w.eq(was, x) {
			t.Errorf("P5.1: Put%s makes the same bytes with another %s as of %v", w.name, path, was)
		}
		seen[b] = x
		return true
	}
	first := give()
	all := partsOf(&first)
	for k, path := range all.leafPaths {
		many := 0
		for j, bend := range bends {
			x := give()
			bend(partsOf(&x).leaves[k])
			if turned(fmt.Sprint(path, " ", j), x) {
				many++
			}
		}
		if many == 0 && !strings.Contains(path, "Tols") {
			t.Errorf("P5.1: %s was not turned", path)
		}
	}
	for k, path := range all.listPaths {
		if all.lists[k].Len() < 2 {
			continue
		}
		for j, reshape := range reshapes {
			x := give()
			reshape(partsOf(&x).lists[k])
			turned(fmt.Sprint(path, " ", j), x)
		}
	}
}

func TestEachPartAlone(t *testing.T) {
	askEachPart(t, pods, obj.MayPod, pod)
	askEachPart(t, pods, obj.MayPod, fewWithTopo)
	askEachPart(t, nodes, obj.MayNode, node)
	askEachPart(t, nodes, obj.MayNode, func() api.Node { return api.Node{Name: "ab"} })
	askEachPart(t, leases, func(l api.Lease) bool { return l.Holder >= 0 && l.Holder < 8 && l.Dur > 0 && l.Dur <= 1<<40 }, lease)
}

// fewWithTopo is a pod of which each part can be turned, though it has no list.
func fewWithTopo() api.Pod {
	return api.Pod{Name: "ab", Uid: 1, Topo: "t", Node: "n", Term: 1}
}

func TestOtherObjectsOtherBytes(t *testing.T) {
	terms, vals := []api.Term{{Key: "k", Kind: api.Exists}}, []string{"a", "b"}
	seen := map[string]int{}
	for k, turn := range []func(p *api.Pod){
		func(p *api.Pod) {}, func(p *api.Pod) { p.Sel = terms }, func(p *api.Pod) { p.Even = terms }, func(p *api.Pod) { p.Topo = "a" }, func(p *api.Pod) { p.Topo, p.Anti = "a", terms }, func(p *api.Pod) { p.Topo, p.Even = "a", terms }, func(p *api.Pod) { p.Topo, p.Sel = "a", terms },
		func(p *api.Pod) { p.Node, p.Term = "a", 1 }, func(p *api.Pod) { p.Topo, p.Skew = "a", 1 }, func(p *api.Pod) { p.Prio = 1 }, func(p *api.Pod) { p.Req[0] = 1 }, func(p *api.Pod) { p.Req[1] = 1 }, func(p *api.Pod) { p.Req[2] = 1 }, func(p *api.Pod) { p.Ports = []int{1} },
		func(p *api.Pod) { p.Tols = []api.Toler{{Any: true}} }, func(p *api.Pod) { p.Tols = []api.Toler{{Val: "a"}} }, func(p *api.Pod) { p.Tols = []api.Toler{{Key: "a", Any: true}} }, func(p *api.Pod) { p.Tols = []api.Toler{{Key: "a", Val: "a"}} }, func(p *api.Pod) { p.Labels = []api.Pair{{Key: "a", Val: "a"}} },
		func(p *api.Pod) { p.Labels = []api.Pair{{Key: "ab", Val: "c"}} }, func(p *api.Pod) { p.Labels = []api.Pair{{Key: "a", Val: "bc"}} }, func(p *api.Pod) { p.Sel = []api.Term{{Key: "k", Kind: api.In, Vals: vals}} }, func(p *api.Pod) { p.Sel = []api.Term{{Key: "k", Kind: api.In, Vals: []string{"ab"}}} }, func(p *api.Pod) { p.Sel = []api.Term{{Key: "k", Kind: api.In, Vals: []string{"b", "a"}}} },
		func(p *api.Pod) { p.Sel = []api.Term{{Key: "k", Kind: api.Absent}} }, func(p *api.Pod) { p.Sel = []api.Term{{Key: "k", Kind: api.Exists}, {Key: "k", Kind: api.Exists}} }, func(p *api.Pod) { p.Sel = []api.Term{{Key: "k", Kind: api.In, Vals: []string{"k"}}} }, func(p *api.Pod) { p.Sel = []api.Term{{Key: "k", Kind: api.NotIn, Vals: []string{"k"}}} },
	} {
		p := fewPod()
		turn(&p)
		b := string(pods.askBack(t, p))
		if was, is := seen[b]; is {
			t.Errorf("P5.1: PutPod makes the same bytes of %d and %d", was, k)
		}
		seen[b] = k
	}
	for k, n := range []api.Node{{Name: "a"}, {Name: "a", Labels: []api.Pair{{Key: "a", Val: "a"}}}, {Name: "a", Taints: []api.Taint{{Key: "a", Val: "a"}}}} {
		b := string(nodes.askBack(t, n))
		if was, is := seen[b]; is {
			t.Errorf("P5.1: PutNode makes the same bytes of %d and %d", was, k)
		}
		seen[b] = k
	}
}

func TestAlikeObjectsAlikeBytes(t *testing.T) {
	empty := fewPod()
	empty.Ports, empty.Labels, empty.Sel, empty.Tols, empty.Anti, empty.Even = []int{}, make([]api.Pair, 0, 3), []api.Term{}, []api.Toler{}, []api.Term{}, make([]api.Term, 0, 3)
	if !bytes.Equal(pods.askBack(t, empty), pods.askBack(t, fewPod())) {
		t.Error("P5.1: PutPod of empty lists makes other bytes than of nil")
	}
	vals := func(vals []string) api.Pod {
		return api.Pod{Name: "a", Uid: 1, Sel: []api.Term{{Key: "k", Kind: api.Absent, Vals: vals}}}
	}
	if !bytes.Equal(pods.askBack(t, vals(nil)), pods.askBack(t, vals([]string{}))) {
		t.Error("P5.1: PutPod of empty Vals makes other bytes than of nil")
	}
	if !bytes.Equal(nodes.askBack(t, api.Node{Name: "a", Labels: []api.Pair{}, Taints: []api.Taint{}}), nodes.askBack(t, api.Node{Name: "a"})) {
		t.Error("P5.1: PutNode of empty lists makes other bytes than of nil")
	}
	wide := pod()
	roomy(&wide)
	if !bytes.Equal(code.PutPod(wide), code.PutPod(pod())) || !bytes.Equal(code.PutPod(obj.CopyPod(pod())), code.PutPod(pod())) {
		t.Error("P5.1: PutPod of alike pods makes other bytes")
	}
	if !bytes.Equal(code.PutNode(obj.CopyNode(node())), code.PutNode(node())) || !bytes.Equal(code.PutLease(lease()), code.PutLease(lease())) {
		t.Error("P5.1: PutNode, PutLease of alike ones make other bytes")
	}
	// Read, and written again, too.
	p, _ := code.GetPod(code.PutPod(empty))
	if !bytes.Equal(code.PutPod(p), code.PutPod(fewPod())) {
		t.Error("P5.1: PutPod of what GetPod tells makes other bytes")
	}
}

func TestWhatMayNotBe(t *testing.T) {
	for _, turn := range []func(p *api.Pod){
		func(p *api.Pod) { *p = api.Pod{} }, func(p *api.Pod) { p.Name = "" }, func(p *api.Pod) { p.Name = "A" }, func(p *api.Pod) { p.Name = long("-") + "-" }, func(p *api.Pod) { p.Name = "\xff" }, func(p *api.Pod) { p.Name = strings.Repeat("a", 1<<20) },
		func(p *api.Pod) { p.Uid = 0 }, func(p *api.Pod) { p.Uid = 1<<40 + 1 }, func(p *api.Pod) { p.Prio = 1001 }, func(p *api.Pod) { p.Prio = -1 }, func(p *api.Pod) { p.Req[1] = most + 1 }, func(p *api.Pod) { p.Req[2] = math.MinInt64 },
		func(p *api.Pod) { p.Ports = []int{2, 1} }, func(p *api.Pod) { p.Ports = []int{65536} }, func(p *api.Pod) { p.Ports = make([]int, 1<<20) }, func(p *api.Pod) { p.Labels = make([]api.Pair, 1<<16) }, func(p *api.Pod) { p.Labels[0].Key = "z" },
		func(p *api.Pod) { p.Sel[0].Kind = 5 }, func(p *api.Pod) { p.Sel[0].Vals = nil }, func(p *api.Pod) { p.Sel[1].Vals = []string{"a"} }, func(p *api.Pod) { p.Sel[0].Vals = strings.Split("a b c d e f g", " ") }, func(p *api.Pod) { p.Anti = make([]api.Term, 7) }, func(p *api.Pod) { p.Even[0].Key = "" },
		func(p *api.Pod) { p.Tols[0].Val = "a" }, func(p *api.Pod) { p.Tols[1].Any = true }, func(p *api.Pod) { p.Tols[1].Key = "é" }, func(p *api.Pod) { p.Topo = "" }, func(p *api.Pod) { p.Skew = 11 }, func(p *api.Pod) { p.Skew = -1 },
		func(p *api.Pod) { p.Node = "" }, func(p *api.Pod) { p.Term = 0 }, func(p *api.Pod) { p.Term = -1 }, func(p *api.Pod) { p.Node, p.Term = "", -1 }, func(p *api.Pod) { p.Term = math.MinInt64 },
	} {
		p := pod()
		turn(&p)
		pods.askNone(t, p)
	}
	for _, turn := range []func(n *api.Node){
		func(n *api.Node) { *n = api.Node{} }, func(n *api.Node) { n.Name = "" }, func(n *api.Node) { n.Name = "N" }, func(n *api.Node) { n.Cap[0] = -1 }, func(n *api.Node) { n.Cap[2] = most + 1 }, func(n *api.Node) { n.Cap[1] = math.MaxInt64 },
		func(n *api.Node) { n.Labels[1].Key = "a" }, func(n *api.Node) { n.Labels[1].Val = "" }, func(n *api.Node) { n.Taints[1].Key = "gpu" }, func(n *api.Node) { n.Taints = make([]api.Taint, 7) }, func(n *api.Node) { n.Labels = make([]api.Pair, 1<<20) },
	} {
		n := node()
		turn(&n)
		nodes.askNone(t, n)
	}
}

func TestLeases(t *testing.T) {
	seen := map[string]api.Lease{}
	for _, holder := range []int{math.MinInt, -1 << 32, -8, -1, 0, 1, 6, 7, 8, 9, 256, 1 << 32, 1<<32 + 1, math.MaxInt} {
		for _, dur := range []int64{math.MinInt64, -1 << 40, -1, 0, 1, 2, 1000, 1<<40 - 1, 1 << 40, 1<<40 + 1, 1 << 41, 1 << 62, math.MaxInt64} {
			l := api.Lease{Holder: holder, Dur: dur}
			if holder < 0 || holder > 7 || dur < 1 || dur > 1<<40 {
				leases.askNone(t, l)
				continue
			}
			b := string(leases.askBack(t, l))
			if was, is := seen[b]; is {
				t.Errorf("P5.1: PutLease makes the same bytes of %v and %v", was, l)
			}
			seen[b] = l
		}
	}
	leases.askNone(t, api.Lease{})
}
