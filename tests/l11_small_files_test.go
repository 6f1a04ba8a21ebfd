package tests

import (
	"math"
	"slices"
	"strconv"
	"testing"

	"loop.example/flashfiles/impl"
)

const (
	mostSmallValues    = 4
	greatestSmallValue = 15
	greatestPacked     = 0x4FFFF
)

// areSmall reckons whether values fit.
func areSmall(values []int) bool {
	for _, value := range values {
		if value != min(max(value, 0), greatestSmallValue) {
			return false
		}
	}
	return len(values) <= mostSmallValues
}

// fittingLists are all lists of values that fit.
func fittingLists() [][]int {
	var lists [][]int
	for size := 0; size <= mostSmallValues; size++ {
		lists = append(lists, listsOf(numbersFromTo(0, greatestSmallValue), size)...)
	}
	return lists
}

// packedByText reckons the number of values by its text: every value is a digit of base 16, and how many there are is the first one.
func packedByText(values []int) int {
	text := strconv.Itoa(len(values))
	for _, value := range values {
		text += strconv.FormatInt(int64(value), 16)
	}
	number, _ := strconv.ParseInt(text, 16, 64)
	return int(number)
}

// packedTable are the values that pack to a number, for each number up to some above the greatest packed one; nil where there are none.
func packedTable() [][]int {
	table := make([][]int, greatestPacked+100000)
	for _, values := range fittingLists() {
		// No values are told from no list by an empty one.
		table[packedByText(values)] = append([]int{}, values...)
	}
	return table
}

// wrongSmallValues are values that no small file has: by one, by far, such that they end with a digit, and such that 16 times them is no int.
func wrongSmallValues() []int {
	return []int{
		-1, -2, -15, -16, -256, 16, 17, 31, 32, 255, 256, 4096, 9999, 65536,
		math.MinInt, math.MinInt + 1, math.MinInt + 16, math.MinInt / 16, math.MaxInt / 16, math.MaxInt - 15, math.MaxInt - 1, math.MaxInt,
	}
}

// listsThatFit are lists of every size that fits: of the least and the greatest values, and of different ones.
func listsThatFit() [][]int {
	lists := [][]int{nil, {}}
	for size := 1; size <= mostSmallValues; size++ {
		lists = append(lists, slices.Repeat([]int{0}, size), slices.Repeat([]int{15}, size))
		lists = append(lists, []int{7, 1, 14, 8}[:size], []int{0, 15, 0, 15}[:size], []int{15, 0, 0, 1}[:size])
	}
	return lists
}

// listsWithWrongValues are lists of every size with a wrong value at every place.
func listsWithWrongValues() [][]int {
	var lists [][]int
	for _, list := range listsThatFit() {
		for n := range list {
			for _, value := range wrongSmallValues() {
				lists = append(lists, withNumber(list, n, value))
			}
		}
	}
	// Two wrong values that are as one right one together, and wrong values alone.
	lists = append(lists, []int{-1, 16}, []int{1, -16}, []int{0, 16, -16, 0}, []int{math.MinInt, math.MaxInt}, []int{math.MaxInt, 1, 0, 0})
	for _, value := range wrongSmallValues() {
		lists = append(lists, slices.Repeat([]int{value}, mostSmallValues))
	}
	return lists
}

// listsOfTooManyValues are lists of too many values, of which only some have a wrong one.
func listsOfTooManyValues() [][]int {
	var lists [][]int
	for _, size := range []int{5, 6, 7, 8, 15, 16, 17, 64, 100000} {
		lists = append(lists, make([]int, size), slices.Repeat([]int{15}, size), slices.Repeat([]int{1}, size))
		lists = append(lists, withNumber(make([]int, size), 0, -1), withNumber(make([]int, size), size-1, 16))
	}
	return lists
}

// listsThatDoNotFit are values that no number is for.
func listsThatDoNotFit() [][]int {
	return slices.Concat(listsWithWrongValues(), listsOfTooManyValues())
}

// numberOf returns the number with the digits of a text, of base 16; of a longer text only the last digits, as far as an int goes.
func numberOf(front string, digits string) int {
	var number int
	for _, digit := range front + digits {
		value, _ := strconv.ParseInt(string(digit), 16, 64)
		number = number<<4 | int(value)
	}
	return number
}

// numbersWithOtherFronts are numbers that tell another number of values than they have, or more than a small file has. Of 15 and 16 values, an int has only the last digits.
func numbersWithOtherFronts() []int {
	var numbers []int
	for front := 1; front <= 16; front++ {
		for size := 0; size <= 16; size++ {
			if front == size && size <= mostSmallValues || front == 16 && size == 0 {
				continue
			}
			for _, digits := range []string{"0000000000000000", "ffffffffffffffff", "7000000000000001", "212341fe34d20212", "8b3c04120f531e60"} {
				numbers = append(numbers, numberOf(strconv.FormatInt(int64(front), 16), digits[:size]))
			}
		}
	}
	// Of a front with zeros behind it, nothing but zeros may be left.
	return slices.DeleteFunc(numbers, func(number int) bool { return number == 0 })
}

// numbersBelowZero are negative numbers, among them packed ones with the other sign, and some that end with their digits.
func numbersBelowZero() []int {
	numbers := []int{-1, -2, -3, -4, -5, -15, -16, -17, math.MinInt, math.MinInt + 1, math.MinInt + 16, math.MinInt + 31, math.MinInt + 530}
	for _, values := range listsThatFit() {
		packed := packedByText(values)
		numbers = append(numbers, -packed-1, packed-1<<20, packed-1<<32, packed+math.MinInt)
		if packed > 0 {
			numbers = append(numbers, -packed)
		}
	}
	return numbers
}

// greatNumbers are numbers that end with the digits of packed ones, and the greatest ones.
func greatNumbers() []int {
	numbers := []int{math.MaxInt, math.MaxInt - 1, math.MaxInt - 15, math.MaxInt - 16, math.MaxInt / 16, math.MaxInt/16 + 1}
	for _, values := range listsThatFit() {
		for _, more := range []int{1 << 20, 1 << 24, 4 << 20, 0xF << 20, 1 << 31, 1 << 32, 1 << 36, 1 << 60, 4 << 60, math.MaxInt - 1<<20 + 1} {
			numbers = append(numbers, more+packedByText(values))
		}
	}
	return numbers
}

// otherNumbers are numbers that no values pack to.
func otherNumbers() []int {
	// Beside the least and the greatest number for each number of values.
	beside := []int{-1, 1, 15, 32, 511, 768, 12287, 16384, 262143, 327680}
	return slices.Concat(beside, numbersWithOtherFronts(), numbersBelowZero(), greatNumbers())
}

func expectFits(t *testing.T, values []int, fit bool) {
	t.Helper()
	if got := impl.SmallFits(values); got != fit {
		t.Errorf("SmallFits(%v) = %t", values, got)
	}
}

func expectPacked(t *testing.T, values []int, number int) {
	t.Helper()
	if got := impl.PackSmall(values); got != number {
		t.Errorf("PackSmall(%v) = %d, not %d", values, got, number)
	}
}

func expectUnpacked(t *testing.T, number int, values []int, done bool) {
	t.Helper()
	if got, gotDone := impl.UnpackSmall(number); gotDone != done || !slices.Equal(got, values) {
		t.Errorf("UnpackSmall(%d) = %v, %t, not %v, %t", number, got, gotDone, values, done)
	}
}

// expectNotUnpacked expects what there is for a number that no values pack to.
func expectNotUnpacked(t *testing.T, number int) {
	t.Helper()
	expectUnpacked(t, number, nil, false)
}

// expectPair expects that values fit, and that they and a number are each other's.
func expectPair(t *testing.T, values []int, number int) {
	t.Helper()
	expectFits(t, values, true)
	expectPacked(t, values, number)
	expectUnpacked(t, number, values, true)
}

func TestLimitsOfSmallFiles(t *testing.T) {
	if impl.SmallMost != mostSmallValues || impl.SmallValue != greatestSmallValue {
		t.Fatal(impl.SmallMost, impl.SmallValue)
	}
}

// The tests that follow rely on these numbers.
func TestOtherNumbersAreNotPackedOnes(t *testing.T) {
	table := packedTable()
	for _, number := range otherNumbers() {
		if number >= 0 && number < len(table) && table[number] != nil {
			t.Errorf("%d is the number of %v", number, table[number])
		}
	}
}

// P64: small files are small.

func TestP64NoValuesFit(t *testing.T) {
	expectFits(t, nil, true)
	expectFits(t, []int{}, true)
}

func TestP64SomeValues(t *testing.T) {
	expectFits(t, []int{0}, true)
	expectFits(t, []int{15}, true)
	expectFits(t, []int{1, 2, 3, 4}, true)
	expectFits(t, []int{4, 4, 4, 4}, true)
	expectFits(t, []int{16}, false)
	expectFits(t, []int{-1}, false)
	expectFits(t, []int{1, 2, 3, 4, 5}, false)
	expectFits(t, []int{0, 0, 0, 0, 0}, false)
	expectFits(t, []int{1, 2, 16, 4}, false)
}

func TestP64AtMostFourValuesFit(t *testing.T) {
	for size := 0; size <= 40; size++ {
		for value := 0; value <= greatestSmallValue; value++ {
			expectFits(t, slices.Repeat([]int{value}, size), size <= 4)
		}
	}
	for _, values := range listsOfTooManyValues() {
		expectFits(t, values, false)
	}
}

func TestP64ValuesHaveBounds(t *testing.T) {
	for value := -300; value <= 300; value++ {
		for size := 1; size <= mostSmallValues; size++ {
			expectFits(t, slices.Repeat([]int{value}, size), value >= 0 && value <= 15)
		}
	}
}

func TestP64AWrongValueDoesNotFitWhereverItStands(t *testing.T) {
	for _, values := range listsWithWrongValues() {
		expectFits(t, values, false)
	}
}

// edgeValues are values at and beside their limits.
func edgeValues() []int {
	return []int{math.MinInt, -1, 0, 1, 14, 15, 16, math.MaxInt}
}

func TestP64AllListsAtTheLimits(t *testing.T) {
	for size := 0; size <= mostSmallValues+1; size++ {
		for _, values := range listsOf(edgeValues(), size) {
			expectFits(t, values, areSmall(values))
		}
	}
}

func TestP64WithAGreaterValueOneDoesNotFit(t *testing.T) {
	for _, values := range fittingLists() {
		expectFits(t, append(slices.Clone(values), greatestSmallValue+1), false)
		for n := range values {
			expectFits(t, withNumber(values, n, greatestSmallValue+1), false)
		}
	}
}

func TestP64WithoutTheLastValueOneThatFitsFits(t *testing.T) {
	for _, values := range fittingLists() {
		for size := 0; size <= len(values); size++ {
			expectFits(t, values[:size], true)
			expectFits(t, values[size:], true)
		}
	}
}

// P9: packed values can be unpacked.

func TestP9NoValuesAreZero(t *testing.T) {
	expectPair(t, nil, 0)
	expectPair(t, []int{}, 0)
}

func TestP9SomeValues(t *testing.T) {
	expectPair(t, []int{0}, 16)
	expectPair(t, []int{15}, 31)
	expectPair(t, []int{1, 2}, 530)
	expectPair(t, []int{2, 1}, 545)
	expectPair(t, []int{0, 0}, 512)
	expectPair(t, []int{1, 2, 3}, 12288+256+32+3)
	expectPair(t, []int{0, 0, 0, 0}, 262144)
	expectPair(t, []int{4, 3, 2, 1}, 262144+4*4096+3*256+2*16+1)
	expectPair(t, []int{15, 15, 15, 15}, 327679)
}

func TestP9EveryValueAlone(t *testing.T) {
	for value := 0; value <= greatestSmallValue; value++ {
		expectPair(t, []int{value}, 16+value)
	}
}

func TestP9AllValuesThatFit(t *testing.T) {
	for _, values := range fittingLists() {
		expectPair(t, values, packedByText(values))
	}
}

// The same values in another order are another number.
func TestP9TheOrderCounts(t *testing.T) {
	var seen []int
	for _, values := range [][]int{{1, 2, 3}, {1, 3, 2}, {2, 1, 3}, {2, 3, 1}, {3, 1, 2}, {3, 2, 1}} {
		number := impl.PackSmall(values)
		if slices.Contains(seen, number) {
			t.Errorf("PackSmall(%v) = %d, as in another order", values, number)
		}
		seen = append(seen, number)
		expectUnpacked(t, number, values, true)
	}
	for _, values := range listsOf(numbersFromTo(0, greatestSmallValue), 2) {
		if values[0] != values[1] && impl.PackSmall(values) == impl.PackSmall([]int{values[1], values[0]}) {
			t.Errorf("%v has the same number in both directions", values)
		}
	}
}

func TestP9ZerosCount(t *testing.T) {
	expectPair(t, []int{7}, 0x17)
	expectPair(t, []int{0, 7}, 0x207)
	expectPair(t, []int{7, 0}, 0x270)
	expectPair(t, []int{0, 0, 7}, 0x3007)
	expectPair(t, []int{0, 7, 0}, 0x3070)
	expectPair(t, []int{7, 0, 0}, 0x3700)
	expectPair(t, []int{0, 0, 0, 7}, 0x40007)
	expectPair(t, []int{0, 0, 7, 0}, 0x40070)
	expectPair(t, []int{0, 7, 0, 0}, 0x40700)
	expectPair(t, []int{7, 0, 0, 0}, 0x47000)
	for size, number := range []int{0, 0x10, 0x200, 0x3000, 0x40000} {
		expectPair(t, make([]int, size), number)
	}
}

func TestP9DifferentValuesHaveDifferentNumbers(t *testing.T) {
	has := make([]bool, greatestPacked+1)
	for _, values := range fittingLists() {
		number := impl.PackSmall(values)
		if number < 0 || number > greatestPacked || has[number] {
			t.Fatalf("PackSmall(%v) = %d", values, number)
		}
		has[number] = true
	}
}

func TestP9OtherValuesAreNotPacked(t *testing.T) {
	for _, values := range listsThatDoNotFit() {
		expectPacked(t, values, -1)
	}
}

func TestP9AllListsAtTheLimits(t *testing.T) {
	for size := 0; size <= mostSmallValues+1; size++ {
		for _, values := range listsOf(edgeValues(), size) {
			if areSmall(values) {
				expectPair(t, values, packedByText(values))
			} else {
				expectPacked(t, values, -1)
			}
		}
	}
}

// P65: accepted numbers are packed values.

func TestP65SomeNumbers(t *testing.T) {
	expectUnpacked(t, 0, nil, true)
	expectUnpacked(t, 16, []int{0}, true)
	expectUnpacked(t, 0x2AB, []int{10, 11}, true)
	expectUnpacked(t, 0x4C0DE, []int{12, 0, 13, 14}, true)
	expectNotUnpacked(t, 1)
	expectNotUnpacked(t, -1)
	expectNotUnpacked(t, 0x2ABC)
	expectNotUnpacked(t, 0x3AB)
	expectNotUnpacked(t, 0x512345)
}

func TestP65TheLeastAndTheGreatestNumbers(t *testing.T) {
	for size := 0; size <= mostSmallValues; size++ {
		least := make([]int, size)
		greatest := slices.Repeat([]int{15}, size)
		first, last := packedByText(least), packedByText(greatest)
		expectPair(t, least, first)
		expectPair(t, greatest, last)
		expectNotUnpacked(t, first-1)
		expectNotUnpacked(t, last+1)
	}
}

func TestP65EveryNumberUpToSomeAboveTheGreatest(t *testing.T) {
	for number, values := range packedTable() {
		expectUnpacked(t, number, values, values != nil)
		got, done := impl.UnpackSmall(number)
		if done && impl.PackSmall(got) != number {
			t.Errorf("PackSmall(%v) = %d, not %d", got, impl.PackSmall(got), number)
		}
	}
}

func TestP65OtherNumbersAreNotUnpacked(t *testing.T) {
	for _, number := range otherNumbers() {
		expectNotUnpacked(t, number)
	}
}

func TestP65NumbersAroundPowersOfTwoAreNotUnpacked(t *testing.T) {
	for power := 19; power <= 62; power++ {
		for more := -40; more <= 600; more++ {
			if number := 1<<power + more; number > greatestPacked {
				expectNotUnpacked(t, number)
			}
			expectNotUnpacked(t, -1<<power+more)
		}
	}
}

// What is given and what is returned share no memory.

func TestValuesGivenAreNotWrittenTo(t *testing.T) {
	for _, values := range append(listsThatFit(), listsThatDoNotFit()...) {
		room := append(slices.Clone(values), 1, 2, 3)
		given := room[:len(values)]
		before := slices.Clone(room)
		impl.SmallFits(given)
		number := impl.PackSmall(given)
		unpacked, _ := impl.UnpackSmall(number)
		overwriteLists([][]int{unpacked})
		if !slices.Equal(room, before) {
			t.Fatalf("%v is written to", before[:len(values)])
		}
	}
}

func TestUnpackedValuesShareNoMemory(t *testing.T) {
	for _, number := range append(otherNumbers(), 0, 16, 31, 0x212, 0x3123, 0x40000, 0x4FFFF) {
		other, _ := impl.UnpackSmall(number)
		before := slices.Clone(other)
		values, _ := impl.UnpackSmall(number)
		overwriteLists([][]int{values})
		again, _ := impl.UnpackSmall(number)
		if !slices.Equal(other, before) || !slices.Equal(again, before) {
			t.Fatalf("UnpackSmall(%d) shares memory with another result", number)
		}
	}
}
