package code

import (
	"sync"
)

// letters are those of a name, in the order of their digits, from 1 on.
//
// A name's letters are the digits of its number, which goes by 37s. No digit is 0: so no two names have one number, the empty one has 0, and each number is a name's. That of 12 letters, as many as a name has, is below 2^63.
const letters = "abcdefghijklmnopqrstuvwxyz0123456789-"

// base is how many letters there are.
const base = uint64(len(letters))

// mostLetters is how many letters the greatest word is as a name's number.
const mostLetters = 13

// digit is that of a name's letter c; 0: no name has c. Every number of a name goes by it.
func digit(c byte) uint64 {
	switch {
	case 'a' <= c && c <= 'z':
		return uint64(c-'a') + 1
	case '0' <= c && c <= '9':
		return uint64(c-'0') + 27
	case c == '-':
		return base
	}
	return 0
}

// The same digits in a table, by the letters' bytes (a name has none above 127), and the once in which they are found. They are found in letters, not by digit, so that the one can be held against the other. Only Digit goes by them: what is written and read is to hang on nothing that is made on the way.
var (
	once   sync.Once
	digits = [128]byte{}
)

// findDigits fills the table of digits.
func findDigits() {
	for k := range len(letters) {
		digits[letters[k]] = byte(k + 1)
	}
}

// Digit is the digit of a name's letter c, from 1 on, as the table has it, which is made when it is first asked for; 0: no name has c.
func Digit(c byte) uint64 {
	once.Do(findDigits)
	if int(c) >= len(digits) {
		return 0
	}
	return uint64(digits[c])
}

// putName is b with the name s behind it, which may be empty.
func putName(b []byte, s string) []byte {
	x := uint64(0)
	for k := range len(s) {
		x = x*base + digit(s[k])
	}
	return putWord(b, x)
}

// getName is the next name. It may be one of 13 letters, which no object has.
func getName(r *reader) string {
	var name [mostLetters]byte
	at := mostLetters
	for x := getWord(r); x > 0; x = (x - 1) / base {
		at--
		name[at] = letters[(x-1)%base]
	}
	return string(name[at:])
}
