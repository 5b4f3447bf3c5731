package reply

// wordSize is how many bytes a number has. All have as many, so that none can be written in two ways.
const wordSize = 8

// reader takes parts from the beginning of what is still to be read.
type reader struct {
	rest []byte
	// bad is whether something that was read can't be an answer's.
	bad bool
}

// whole says whether all was read, and nothing of it was bad.
func (r *reader) whole() bool {
	return !r.bad && len(r.rest) == 0
}

// take is the next n bytes, where they lie; nil, and bad: there are not so many.
func (r *reader) take(n int) []byte {
	if n > len(r.rest) {
		r.bad = true
		return nil
	}
	piece := r.rest[:n]
	r.rest = r.rest[n:]
	return piece
}

// putNumber is b with the number x behind it, its high byte first.
func putNumber(b []byte, x int64) []byte {
	word := uint64(x)
	for shift := 56; shift >= 0; shift -= 8 {
		b = append(b, byte(word>>shift))
	}
	return b
}

// getNumber is the next number; 0, and bad: there is none. A word from 2^63 on is one below 0, which no answer has.
func getNumber(r *reader) int64 {
	word := uint64(0)
	for _, c := range r.take(wordSize) {
		word = word<<8 | uint64(c)
	}
	return int64(word)
}

// getMany is the next number, which says how many follow; 0, and bad: it can't, being below 0 or above most.
func getMany(r *reader, most int) int {
	many := getNumber(r)
	if many < 0 || many > int64(most) {
		r.bad = true
		return 0
	}
	return int(many)
}

// putFlag is b with yes behind it: 1, or 0.
func putFlag(b []byte, yes bool) []byte {
	if yes {
		return putNumber(b, 1)
	}
	return putNumber(b, 0)
}

// getFlag is the next flag; false, and bad: it is neither 1 nor 0.
func getFlag(r *reader) bool {
	return getMany(r, 1) == 1
}

// putText is b with how many bytes text has, and these, behind it.
func putText(b []byte, text string) []byte {
	b = putNumber(b, int64(len(text)))
	return append(b, text...)
}

// getText is the next text, of at most that many bytes.
func getText(r *reader, most int) string {
	return string(r.take(getMany(r, most)))
}

// putBytes is b with how many bytes val has, and these, behind it.
func putBytes(b, val []byte) []byte {
	b = putNumber(b, int64(len(val)))
	return append(b, val...)
}

// getBytes are the next bytes, at most that many, in new memory; nil: none.
func getBytes(r *reader, most int) []byte {
	return append([]byte(nil), r.take(getMany(r, most))...)
}

// putList is b with the list l behind it: how many there are, then each element, as put writes it.
func putList[T any](b []byte, l []T, put func([]byte, T) []byte) []byte {
	b = putNumber(b, int64(len(l)))
	for _, x := range l {
		b = put(b, x)
	}
	return b
}

// getList is the next list, of at most that many, each element as get reads it; nil, if it is empty.
func getList[T any](r *reader, most int, get func(*reader) T) []T {
	var l []T
	for range getMany(r, most) {
		l = append(l, get(r))
	}
	return l
}
