package impl

// MaxSet is the greatest set: of all numbers in 0..15.
const MaxSet = 65535

// setNumbers is how many numbers a set can have.
const setNumbers = 16

// BitCount returns how many numbers a set in 0..MaxSet has: how many powers of two make it; -1 for other sets.
func BitCount(set int) int {
	if !isSet(set) {
		return -1
	}
	count := 0
	for n := 0; n < setNumbers; n++ {
		if BitHas(set, n) {
			count++
		}
	}
	return count
}

// BitHas reports whether a set in 0..MaxSet has a number in 0..15; false for other arguments.
func BitHas(set int, n int) bool {
	if !isSet(set) || !isSetNumber(n) {
		return false
	}
	return set&powerOfTwo(n) != 0
}

// BitPut returns a set in 0..MaxSet with a number in 0..15, or without it; -1 for other arguments.
func BitPut(set int, n int, has bool) int {
	if !isSet(set) || !isSetNumber(n) {
		return -1
	}
	if has {
		return set | powerOfTwo(n)
	}
	return set &^ powerOfTwo(n)
}

// BitFirst returns the least number in 0..15 of a set in 0..MaxSet; -1 for the empty one, and for other sets.
func BitFirst(set int) int {
	for n := 0; n < setNumbers; n++ {
		if BitHas(set, n) {
			return n
		}
	}
	return -1
}

// isSet reports whether a number is a set.
func isSet(set int) bool {
	return set >= 0 && set <= MaxSet
}

// isSetNumber reports whether a number can be in a set.
func isSetNumber(n int) bool {
	return n >= 0 && n < setNumbers
}

// powerOfTwo returns two to the power of a number of at least 0.
func powerOfTwo(n int) int {
	// A shift by a signed number below 0 would panic; one by an unsigned number never does.
	return 1 << uint(n)
}
