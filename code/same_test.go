package code_test

import (
	"crypto/sha256"
	"encoding/hex"
	"fmt"
	"math"
	"strings"
	"testing"

	"interrex/api"
	"interrex/code"
)

// nameLetters are all bytes that a name may have, in the order of their digits.
const nameLetters = "abcdefghijklmnopqrstuvwxyz0123456789-"

// numberOf is the number that stands for a name.
func numberOf(name string) uint64 {
	x := uint64(0)
	for k := range len(name) {
		x = x*37 + uint64(strings.IndexByte(nameLetters, name[k])) + 1
	}
	return x
}

// Objects that are in a store stay what they are: their bytes are those that they always were.
func TestBytesStayTheSame(t *testing.T) {
	for what, x := range map[string]struct {
		b    []byte
		want string
	}{
		"a small pod": {code.PutPod(fewPod()), strings.Repeat("0000000000000001", 3) + strings.Repeat("0", 16*14)},
		"a pod": {code.PutPod(pod()), "0000000000000001" + "000000000295ab1f" + "0000000000000007" + "0000000000000003" + "0000000000000002" + "0000000000000003" + "0000000000000004" +
			"0000000000000003" + "0000000000000050" + "00000000000001bb" + "0000000000001f90" +
			"0000000000000002" + "00000000000007b9" + "0000000000007bba" + "00000000000fa630" + "0000000000b9d181" +
			"0000000000000002" + "0000000000146ab4" + "0000000000000001" + "0000000000000002" + "0000000000000001" + "0000000000000002" + "0000000000034a5f" + "0000000000000003" + "0000000000000000" +
			"0000000000000003" + "0000000000000000" + "0000000000000000" + "0000000000000001" + "00000000000f0736" + "000000000000867d" + "0000000000000000" + "0000000000000000" + "000000000000867d" + "0000000000000000" +
			"0000000000146ab4" + "0000000000000002" + "00000000000007b9" + "0000000000000001" + "0000000000000002" + "0000000000007bba" + "0000000000000096" + "00000000000051f7" + "0000000000000004" + "0000000000000000" +
			"0000000000000002" + "0000000000000002" + "00000000000007b9" + "0000000000000002" + "0000000000000002" + "0000000000000019" + "000000000000001a" + "00000000000fa630" + "0000000000000003" + "0000000000000000" +
			"0000000000000222" + "0000000000000009"},
		"a small node": {code.PutNode(api.Node{Name: "a"}), "0000000000000002" + "0000000000000001" + strings.Repeat("0", 16*5)},
		"a node": {code.PutNode(node()), "0000000000000002" + "0000000000000222" + "000000000000000a" + "0000000000000014" + "000000000000001e" +
			"0000000000000002" + "0000000000034a5f" + "000000000000685e" + "0000000000146ab4" + "0000000000000001" + "0000000000000002" + "00000000000027d4" + "00000000000051f7" + "00000000000f0736" + "000000000000867d"},
		"a lease": {code.PutLease(lease()), "0000000000000003" + "0000000000000003" + "00000000000003e8"},
	} {
		if got := hex.EncodeToString(x.b); got != x.want {
			t.Errorf("P5.1: the bytes of %s are %s", what, got)
		}
	}
	for what, x := range map[string]struct {
		b    []byte
		many int
		want string
	}{
		"an unbound pod": {code.PutPod(unbound()), 456, "90bdf784d6d38144165bb28dacebaa7d259d35de231c80c2e31118e4614ce3d1"},
		"a great pod":    {code.PutPod(greatPod()), 1720, "38ae0079761c6be1fc05b509ce9d089736f815a41cae0e03aa8e82e978f13d3f"},
		"a great node":   {code.PutNode(greatNode()), 248, "244bb5755ce5033b5158d6e6bbc258685a38b8cccea2ac9ffb956ff319dec241"},
	} {
		sum := sha256.Sum256(x.b)
		if got := hex.EncodeToString(sum[:]); len(x.b) != x.many || got != x.want {
			t.Errorf("P5.1: the %d bytes of %s have the sum %s", len(x.b), what, got)
		}
	}
}

func TestNumbersOfNames(t *testing.T) {
	for _, c := range nameLetters {
		for n := range api.MaxName {
			for _, name := range []string{strings.Repeat(string(c), n+1), nameLetters[:n] + string(c), string(c) + nameLetters[36-n+1:], "z" + nameLetters[25:25+n/2] + string(c) + "-"} {
				if len(name) > api.MaxName {
					continue
				}
				if got := wordsOf(code.PutPod(api.Pod{Name: name, Uid: 1}))[1]; got != numberOf(name) {
					t.Errorf("P5.1: PutPod writes the name %q as %d", name, got)
				}
				if got := wordsOf(code.PutNode(api.Node{Name: name}))[1]; got != numberOf(name) {
					t.Errorf("P5.1: PutNode writes the name %q as %d", name, got)
				}
			}
		}
	}
}

// namesAndOthers are names, and what is none.
func namesAndOthers() []string {
	names := []string{"", " ", "A B", "l", "p/a", "n/a", "p/", "n/", "é", "\xff", "\x00", strings.Repeat("a", 1<<16)}
	for n := range 20 {
		names = append(names, strings.Repeat("z", n), nameLetters[n:], nameLetters[:n], nameLetters[n:min(n+12, len(nameLetters))], nameLetters[n:min(n+13, len(nameLetters))])
	}
	for c := range 256 {
		b := string([]byte{byte(c)})
		names = append(names, b, "a"+b, b+"a", "a"+b+"a", "abcdefghijk"+b, "abcdefghijkl"+b, b+"-123456789")
	}
	return names
}

// The keys under which they are in a store stay what they are, too.
func TestKeysStayTheSame(t *testing.T) {
	sum := sha256.New()
	for _, kind := range []int{code.KPod, code.KNode, code.KLease, code.KNone, 4, -1, 1 << 32, math.MinInt, math.MaxInt} {
		for _, name := range namesAndOthers() {
			fmt.Fprintf(sum, "%d %q %q;", kind, name, code.Key(kind, name))
		}
	}
	if got := hex.EncodeToString(sum.Sum(nil)); got != "c0517f0dd63976ba22f55d5c8b4da12a67e8232530bb85d123dc0ce59a6f3bdc" {
		t.Errorf("P5.1: the keys have the sum %s", got)
	}
}
