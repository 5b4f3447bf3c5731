package code

// wordSize is how many bytes a word has. All have as many, so that no number can be written in two ways.
const wordSize = 8

// mostOf is how many elements a list of an object has at most: those that api.MaxPairs names, and a term's Vals.
const mostOf = 6

// integer is what a number is told as.
type integer interface{ int | int64 }

// reader takes words from the beginning of what is still to be read.
type reader struct {
	rest []byte
	// bad is whether something that was read can't be an object's.
	bad bool
}

// open is a reader of b, behind the kind, which has to be that one.
func open(b []byte, kind int) *reader {
	r := &reader{rest: b}
	if getNumber[int](r) != kind {
		r.bad = true
	}
	return r
}

// whole says whether all was read, and nothing of it was bad.
func (r *reader) whole() bool {
	return !r.bad && len(r.rest) == 0
}

// putWord is b with the word x behind it, its high byte first.
func putWord(b []byte, x uint64) []byte {
	for shift := 56; shift >= 0; shift -= 8 {
		b = append(b, byte(x>>shift))
	}
	return b
}

// getWord is the next word; 0, and bad: there is none.
func getWord(r *reader) uint64 {
	if len(r.rest) < wordSize {
		r.bad = true
		return 0
	}
	var x uint64
	for _, c := range r.rest[:wordSize] {
		x = x<<8 | uint64(c)
	}
	r.rest = r.rest[wordSize:]
	return x
}

// putNumber is b with the number x behind it.
func putNumber[N integer](b []byte, x N) []byte {
	return putWord(b, uint64(x))
}

// getNumber is the next number. A word from 2^63 on is one below 0, which no object has.
func getNumber[N integer](r *reader) N {
	return N(getWord(r))
}

// putList is b with the list l behind it, each element as put writes it.
func putList[T any](b []byte, l []T, put func([]byte, T) []byte) []byte {
	b = putNumber(b, len(l))
	for _, x := range l {
		b = put(b, x)
	}
	return b
}

// getList is the next list, each element as get reads it; nil, if it is empty; nil, and bad: it says that it has more than any list has.
func getList[T any](r *reader, get func(*reader) T) []T {
	many := getWord(r)
	if many > mostOf {
		r.bad = true
		return nil
	}
	var l []T
	for range many {
		l = append(l, get(r))
	}
	return l
}
