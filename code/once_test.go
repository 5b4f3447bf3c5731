package code_test

import (
	"bytes"
	"encoding/hex"
	"os"
	"os/exec"
	"strings"
	"sync"
	"testing"

	"interrex/code"
	"interrex/obj"
)

// What a program is told that is asked of the first call alone: which call comes first, and what it has to answer.
const (
	firstOf = "CODE_FIRST_OF"
	answers = "CODE_ANSWERS"
)

// calls are those of each function, and of the table, with whether it answers what it has to, given the bytes of pod, node and lease.
var calls = map[string]func(p, n, l []byte) bool{
	"PutPod":   func(p, n, l []byte) bool { return bytes.Equal(code.PutPod(pod()), p) },
	"GetPod":   func(p, n, l []byte) bool { x, ok := code.GetPod(p); return ok && obj.EqPod(x, pod()) },
	"PutNode":  func(p, n, l []byte) bool { return bytes.Equal(code.PutNode(node()), n) },
	"GetNode":  func(p, n, l []byte) bool { x, ok := code.GetNode(n); return ok && obj.EqNode(x, node()) },
	"PutLease": func(p, n, l []byte) bool { return bytes.Equal(code.PutLease(lease()), l) },
	"GetLease": func(p, n, l []byte) bool { x, ok := code.GetLease(l); return ok && x == lease() },
	"Kind":     func(p, n, l []byte) bool { return code.Kind("p/a-1") == code.KPod && code.Kind("n/A") == code.KNone },
	"Key": func(p, n, l []byte) bool {
		return code.Key(code.KNode, "a-1") == "n/a-1" && code.Key(code.KPod, "A") == ""
	},
	"the table": func(p, n, l []byte) bool { return sameDigits(code.Digit) },
	"a digit":   func(p, n, l []byte) bool { return sameDigits(code.Worked) },
	"both": func(p, n, l []byte) bool {
		for c := range 256 {
			if code.Worked(byte(c)) != code.Digit(byte(c)) {
				return false
			}
		}
		return true
	},
}

// asksTable says whether the call of that name asks the table.
func asksTable(name string) bool {
	return name == "the table" || name == "both"
}

// sameDigits says whether digit tells each byte's place among the letters of a name, from 1 on, and 0 of a byte that is none.
func sameDigits(digit func(byte) uint64) bool {
	for c := range 256 {
		if digit(byte(c)) != uint64(strings.IndexByte(nameLetters, byte(c))+1) {
			return false
		}
	}
	return true
}

// together says whether all calls answer what they have to, many at once, where those of that name begin.
func together(first string, p, n, l []byte) bool {
	var (
		all  sync.WaitGroup
		lock sync.Mutex
	)
	good, begin := true, make(chan struct{})
	for name, call := range calls {
		for range 16 {
			all.Go(func() {
				if name != first {
					<-begin
				}
				ok := call(p, n, l)
				lock.Lock()
				good = good && ok
				lock.Unlock()
			})
		}
	}
	close(begin)
	all.Wait()
	return good
}

func TestWhoAsksFirst(t *testing.T) {
	if first := os.Getenv(firstOf); first != "" {
		// Here nothing was asked yet.
		bs := bytesOfAnswers()
		if !calls[first](bs[0], bs[1], bs[2]) || !together("", bs[0], bs[1], bs[2]) {
			t.Error("P5.1: another answer of the first call, or of a later one")
		}
		return
	}
	p, n, l := code.PutPod(pod()), code.PutNode(node()), code.PutLease(lease())
	for name := range calls {
		askProgram(t, "TestWhoAsksFirst", name, p, n, l)
	}
	if !together("", p, n, l) {
		t.Error("P5.1: another answer of a later call")
	}
}

func TestManyAskAtOnce(t *testing.T) {
	if first := os.Getenv(firstOf); first != "" {
		bs := bytesOfAnswers()
		if !together(first, bs[0], bs[1], bs[2]) {
			t.Error("P5.1: another answer of many at once")
		}
		return
	}
	p, n, l := code.PutPod(pod()), code.PutNode(node()), code.PutLease(lease())
	for name := range calls {
		askProgram(t, "TestManyAskAtOnce", name, p, n, l)
	}
}

func TestTableIsMadeOnce(t *testing.T) {
	if os.Getenv(firstOf) == "" {
		askProgram(t, "TestTableIsMadeOnce", "Digit", code.PutPod(pod()), code.PutNode(node()), code.PutLease(lease()))
		return
	}
	// Here nothing was asked yet.
	bs := bytesOfAnswers()
	for name, call := range calls {
		if !asksTable(name) && (!call(bs[0], bs[1], bs[2]) || code.Made()) {
			t.Errorf("P5.1: %s makes the table, or answers another thing without it", name)
		}
	}
	code.Worked('a')
	if code.Made() {
		t.Error("P5.1: the table is made ahead of the first who asks for it")
	}
	code.Digit('\xff')
	if !code.Made() || !sameDigits(code.Digit) {
		t.Error("P5.1: the table is not made when it is first asked for")
	}
	code.SpoilTable()
	if sameDigits(code.Digit) {
		t.Error("P5.1: the table is made another time")
	}
}

func TestNoAnswerHangsOnTheTable(t *testing.T) {
	if os.Getenv(firstOf) == "" {
		askProgram(t, "TestNoAnswerHangsOnTheTable", "SpoilTable", code.PutPod(pod()), code.PutNode(node()), code.PutLease(lease()))
		return
	}
	bs := bytesOfAnswers()
	code.SpoilTable()
	for name, call := range calls {
		if call(bs[0], bs[1], bs[2]) == asksTable(name) {
			t.Errorf("P5.1: with other digits in the table %s answers so: %v", name, asksTable(name))
		}
	}
}

// bytesOfAnswers are those of pod, node and lease that the program was told.
func bytesOfAnswers() [][]byte {
	var bs [][]byte
	for _, text := range strings.Split(os.Getenv(answers), " ") {
		b, _ := hex.DecodeString(text)
		bs = append(bs, b)
	}
	return bs
}

// askProgram runs that test alone in a program of its own, in which nothing was asked yet.
func askProgram(t *testing.T, test, first string, p, n, l []byte) {
	t.Helper()
	program := exec.Command(os.Args[0], "-test.run=^"+test+"$")
	program.Env = append(os.Environ(), firstOf+"="+first, answers+"="+hex.EncodeToString(p)+" "+hex.EncodeToString(n)+" "+hex.EncodeToString(l))
	if told, err := program.CombinedOutput(); err != nil {
		t.Errorf("P5.1: where %s comes first: %v: %s", first, err, told)
	}
}
