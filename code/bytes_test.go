package code_test

import (
	"bytes"
	"fmt"
	"math"
	"reflect"
	"slices"
	"testing"

	"interrex/api"
	"interrex/code"
	"interrex/obj"
)

// written are the bytes of objects of each kind.
func written() map[string][]byte {
	return map[string][]byte{
		"a pod's": code.PutPod(pod()), "an unbound pod's": code.PutPod(unbound()), "a small pod's": code.PutPod(fewPod()), "a great pod's": code.PutPod(greatPod()),
		"a node's": code.PutNode(node()), "a small node's": code.PutNode(api.Node{Name: "a"}), "a great node's": code.PutNode(greatNode()), "a lease's": code.PutLease(lease()),
	}
}

func TestCutOff(t *testing.T) {
	for what, b := range written() {
		for n := range b {
			at := fmt.Sprint(what, " up to ", n)
			pods.askNot(t, at, b[:n])
			nodes.askNot(t, at, b[:n])
			leases.askNot(t, at, b[:n])
			// From the other end on, too.
			askAnyOfAll(t, fmt.Sprint(what, " from ", n, " on"), b[n:])
		}
	}
}

func TestMoreBytes(t *testing.T) {
	for what, b := range written() {
		for c := range 256 {
			for _, more := range [][]byte{append(slices.Clone(b), byte(c)), append(slices.Clone(b), 0, 0, 0, 0, 0, 0, 0, byte(c)), append([]byte{byte(c)}, b...)} {
				pods.askNot(t, what+" with more", more)
				nodes.askNot(t, what+" with more", more)
				leases.askNot(t, what+" with more", more)
			}
		}
		pods.askNot(t, what+" twice", append(slices.Clone(b), b...))
		nodes.askNot(t, what+" twice", append(slices.Clone(b), b...))
		leases.askNot(t, what+" twice", append(slices.Clone(b), b...))
		for k := range b {
			askAnyOfAll(t, fmt.Sprint(what, " with a byte at ", k), slices.Insert(slices.Clone(b), k, 0))
			askAnyOfAll(t, fmt.Sprint(what, " without that at ", k), slices.Delete(slices.Clone(b), k, k+1))
		}
	}
}

func TestEachByteTurned(t *testing.T) {
	for what, b := range written() {
		was := slices.Clone(b)
		// Of the greatest ones, which say no more but at length, each bit alone is turned.
		turns := 256
		if len(b) > 800 {
			turns = 8
		}
		for k := range b {
			at := fmt.Sprint(what, " with another byte at ", k)
			for c := range turns {
				b[k] = byte(c)
				if turns == 8 {
					b[k] = was[k] ^ 1<<c
				}
				askAnyOfAll(t, at, b)
				if p, ok := code.GetPod(b); ok && b[k] != was[k] && bytes.Equal(code.PutPod(p), was) {
					t.Errorf("P5.1: GetPod makes the same of %s", at)
				}
			}
			b[k] = was[k]
		}
	}
}

func TestOtherKinds(t *testing.T) {
	for what, b := range written() {
		p, n, l := pods.askAny(t, what, b), nodes.askAny(t, what, b), leases.askAny(t, what, b)
		isPod, isNode := bytes.Contains([]byte(what), []byte("pod")), bytes.Contains([]byte(what), []byte("node"))
		if p != isPod || n != isNode || l != (!isPod && !isNode) {
			t.Errorf("P5.1: %s bytes: a pod's %v, a node's %v, a lease's %v", what, p, n, l)
		}
	}
	for _, b := range [][]byte{nil, {}, {0}, {1}, make([]byte, 8), make([]byte, 24), make([]byte, 4000), bytes.Repeat([]byte{0xff}, 4000), make([]byte, 1<<20), bytes.Repeat([]byte{1}, 1<<20)} {
		pods.askNot(t, "any bytes", b)
		nodes.askNot(t, "any bytes", b)
		leases.askNot(t, "any bytes", b)
	}
}

// ofWords are the bytes of these words.
func ofWords(words []uint64) []byte {
	var b []byte
	for _, x := range words {
		for shift := 56; shift >= 0; shift -= 8 {
			b = append(b, byte(x>>shift))
		}
	}
	return b
}

// wordsOf are the words of these bytes.
func wordsOf(b []byte) []uint64 {
	words := make([]uint64, len(b)/8)
	for k, c := range b {
		words[k/8] = words[k/8]<<8 | uint64(c)
	}
	return words
}

// Numbers of names: of the last one of 12 letters, of the first one of 13.
const (
	lastName = 6765811783780036260
	farName  = lastName + 1
)

func TestEachWordTurned(t *testing.T) {
	for what, b := range written() {
		words := wordsOf(b)
		for k, was := range words {
			for _, x := range []uint64{
				0, 1, 2, 3, 4, 5, 6, 7, 8, 9, 10, 11, 36, 37, 38, 255, 256, 1000, 1001, 1406, 1407, 65535, 65536, most, most + 1, 1<<32 - 1, 1 << 32, 1<<32 + 1, 1<<32 + 2, 1 << 40, 1<<40 + 1,
				1 << 62, lastName - 1, lastName, farName, farName + 1, 1<<63 - 1, 1 << 63, 1<<63 + 1, 1<<63 + 7, math.MaxUint64 - 1, math.MaxUint64, was + 1, was - 1, was + 1<<63, was + 1<<32,
			} {
				words[k] = x
				askAnyOfAll(t, fmt.Sprint(what, " with the word ", x, " at ", k), ofWords(words))
			}
			words[k] = was
		}
	}
}

func TestWrongWords(t *testing.T) {
	// The words of fewPod, and of what is turned at one place.
	few := []uint64{code.KPod, 1, 1, 0, 0, 0, 0, 0, 0, 0, 0, 0, 0, 0, 0, 0, 0}
	if !bytes.Equal(ofWords(few), code.PutPod(fewPod())) {
		t.Fatalf("P5.1: the words of a small pod are %v", wordsOf(code.PutPod(fewPod())))
	}
	for _, x := range []struct {
		what string
		k    int
		word uint64
	}{
		{"no kind", 0, code.KNone}, {"a node's kind", 0, code.KNode}, {"a lease's kind", 0, code.KLease}, {"another kind", 0, 4}, {"a kind too long", 0, 1<<32 + code.KPod}, {"a kind below 0", 0, math.MaxUint64},
		{"no name", 1, 0}, {"a name of 13 letters", 1, farName}, {"the greatest name's word", 1, math.MaxUint64}, {"Uid 0", 2, 0}, {"Uid -1", 2, math.MaxUint64}, {"Uid 2^40 + 1", 2, 1<<40 + 1}, {"the Uid's high bit", 2, 1<<63 + 1},
		{"Prio 1001", 3, 1001}, {"Prio -1", 3, math.MaxUint64}, {"an amount too great", 4, most + 1}, {"an amount below 0", 5, 1 << 63}, {"an amount of -1", 6, math.MaxUint64},
		{"a port, and none", 7, 1}, {"7 ports", 7, 7}, {"ports without end", 7, math.MaxUint64}, {"ports below 0", 7, 1 << 63}, {"a label, and none", 8, 1}, {"labels without end", 8, 1 << 62}, {"a term, and none", 9, 1}, {"terms without end", 9, 1<<63 - 1}, {"a toleration, and none", 10, 1}, {"tolerations without end", 10, 1<<64 - 6},
		{"a Topo of 13 letters", 11, farName}, {"an Anti, and none", 12, 1}, {"a Skew without a Topo", 13, 1}, {"a Skew below 0", 13, math.MaxUint64}, {"an Even, and none", 14, 1}, {"a Node without a Term", 15, 1}, {"a Term without a Node", 16, 1}, {"a Term below 0", 16, math.MaxUint64},
	} {
		words := slices.Clone(few)
		words[x.k] = x.word
		pods.askNot(t, x.what, ofWords(words))
	}
	// With one toleration behind the others: Any is 0 or 1, and has no Val.
	for any := range uint64(300) {
		words := slices.Insert(slices.Clone(few), 11, 1, 0, any)
		words[10] = 1
		if pods.askAny(t, "a toleration", ofWords(words)) != (any == 1) {
			t.Errorf("P5.1: GetPod of a toleration, Any %d", any)
		}
	}
}

func TestLongerLists(t *testing.T) {
	// The count of the last list of a node, which has two, says more than there are, or fewer.
	words := wordsOf(code.PutNode(node()))
	at := len(words) - 5
	for _, many := range []uint64{0, 1, 3, 4, 5, 6, 7, 8, 255, 256, 1 << 31, 1 << 32, 1<<32 + 2, 1 << 61, 1 << 62, 1<<63 - 1, 1 << 63, math.MaxUint64} {
		words[at] = many
		nodes.askNot(t, fmt.Sprint("a node that says it has ", many, " taints"), ofWords(words))
		if many > 2 && many < 7 {
			// As many as it says, but zero.
			more := append(slices.Clone(words), make([]uint64, 2*(many-2))...)
			nodes.askNot(t, fmt.Sprint("a node with ", many-2, " taints of nothing"), ofWords(more))
		}
	}
	// Seven of them, each one as it should be.
	words[at] = 7
	for range 5 {
		words = append(words, words[len(words)-2]+1, 1)
	}
	nodes.askNot(t, "a node with 7 taints", ofWords(words))
}

// coin throws numbers, always the same ones.
type coin uint64

// of is a number from 0 to k less one.
func (c *coin) of(k int) int {
	*c = *c*6364136223846793005 + 1442695040888963407
	return int(*c>>33) % k
}

func TestAnyBytes(t *testing.T) {
	c := coin(7)
	for range 20000 {
		b := make([]byte, c.of(300))
		for k := range b {
			// Zeros more often, so that it gets on to the lists.
			if c.of(3) == 0 {
				b[k] = byte(c.of(256))
			}
		}
		askAnyOfAll(t, fmt.Sprint(b), b)
	}
	for range 20000 {
		words := make([]uint64, c.of(40))
		for k := range words {
			words[k] = uint64(c.of(4))
		}
		askAnyOfAll(t, fmt.Sprint(words), ofWords(words))
	}
	base := written()
	for range 20000 {
		b := slices.Clone(base["a pod's"])
		for range 1 + c.of(3) {
			b[c.of(len(b))] ^= byte(1 << c.of(8))
		}
		askAnyOfAll(t, fmt.Sprint(b), b)
	}
}

func FuzzAnyBytes(f *testing.F) {
	for _, b := range written() {
		f.Add(b)
	}
	f.Fuzz(func(t *testing.T, b []byte) { askAnyOfAll(t, "bytes", b) })
}

// roomy gives each list of what at points to spare room.
func roomy(at any) {
	// The lists in a list come first, because it moves.
	for _, v := range slices.Backward(partsOf(at).lists) {
		wide := reflect.MakeSlice(v.Type(), v.Len(), v.Len()+3)
		reflect.Copy(wide, v)
		v.Set(wide)
	}
}

// askRoom tells of each list of what at points to whether its spare room is as roomy made it.
func askRoom(t *testing.T, at any) {
	t.Helper()
	all := partsOf(at)
	for k, v := range all.lists {
		for j := v.Len(); j < v.Cap(); j++ {
			if !v.Slice(0, v.Cap()).Index(j).IsZero() {
				t.Errorf("P0.3: written behind the end of %s", all.listPaths[k])
			}
		}
	}
}

// scribble writes to each leaf of what at points to, and to all spare room of its lists.
func scribble(at any) {
	all := partsOf(at)
	for _, v := range all.lists {
		spare := v.Slice(0, v.Cap())
		for k := v.Len(); k < v.Cap(); k++ {
			spare.Index(k).Set(spare.Index(0))
		}
	}
	for _, v := range all.leaves {
		bends[0](v)
	}
}

// askApart asks that no two lists of what at points to share memory, spare room neither.
func askApart(t *testing.T, at any) {
	t.Helper()
	all := partsOf(at)
	for k, v := range all.lists {
		from, to := v.Pointer(), v.Pointer()+uintptr(v.Cap())*v.Type().Elem().Size()
		for j, w := range all.lists[:k] {
			if v.Cap() > 0 && w.Cap() > 0 && w.Pointer() < to && from < w.Pointer()+uintptr(w.Cap())*w.Type().Elem().Size() {
				t.Errorf("P0.3: %s and %s share", all.listPaths[k], all.listPaths[j])
			}
		}
	}
}

// askMemory asks that what is written and read of an object that give gives shares nothing with it, and nothing with another answer.
func askMemory[T any](t *testing.T, w way[T], give func() T) {
	t.Helper()
	x := give()
	roomy(&x)
	b, c := w.put(x), w.put(x)
	askRoom(t, &x)
	if !w.eq(x, give()) {
		t.Errorf("P0.3: Put%s makes %v", w.name, x)
	}
	scribble(&x)
	if !bytes.Equal(b, w.put(give())) {
		t.Errorf("P0.3: who writes to what Put%s was given changes the bytes", w.name)
	}
	b = b[:cap(b)]
	clear(b)
	if !bytes.Equal(c, w.put(give())) || !w.eq(roomless(w, c), give()) {
		t.Errorf("P0.3: who writes to what Put%s told changes what it told another time", w.name)
	}
	wide := append(append(slices.Repeat([]byte{5}, 9), c...), slices.Repeat([]byte{5}, 99)...)
	was := slices.Clone(wide)
	in := wide[9 : 9+len(c)]
	y, z := roomless(w, in), roomless(w, in)
	askApart(t, &y)
	scribble(&y)
	if !w.eq(z, give()) || !bytes.Equal(wide, was) {
		t.Errorf("P0.3: who writes to what Get%s told changes what it told another time, or the bytes", w.name)
	}
	clear(wide)
	if !w.eq(z, give()) {
		t.Errorf("P0.3: who writes to the bytes changes what Get%s told", w.name)
	}
}

// roomless is what w reads of b, which are an object's.
func roomless[T any](w way[T], b []byte) T {
	x, _ := w.get(b)
	return x
}

func TestMemory(t *testing.T) {
	for _, give := range []func() api.Pod{pod, unbound, fewPod, greatPod} {
		askMemory(t, pods, give)
	}
	for _, give := range []func() api.Node{node, greatNode} {
		askMemory(t, nodes, give)
	}
	askMemory(t, leases, lease)
}

func TestTermsOfOneList(t *testing.T) {
	// What has one and the same list several times is read as one with several.
	vals := []string{"u", "v"}
	ts := []api.Term{{Key: "j", Kind: api.In, Vals: vals}, {Key: "k", Kind: api.NotIn, Vals: vals}}
	p := api.Pod{Name: "a", Uid: 1, Sel: ts, Topo: "t", Anti: ts, Even: ts}
	q, ok := code.GetPod(code.PutPod(p))
	if !ok || !obj.EqPod(p, q) {
		t.Errorf("P5.1: GetPod makes %v, %v", q, ok)
	}
	askApart(t, &q)
}
