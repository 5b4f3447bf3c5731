package code

// Worked is a letter's digit by the function.
func Worked(c byte) uint64 { return digit(c) }

// Made says whether the table was made.
func Made() bool { return digits[letters[0]] != 0 }

// SpoilTable has wrong digits in the table from now on.
func SpoilTable() {
	once.Do(func() {})
	for c := range digits {
		digits[c] = byte(c) ^ 5
	}
}
