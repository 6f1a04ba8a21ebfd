package tests

import (
	"math"
	"slices"
	"testing"

	"loop.example/flashfiles/impl"
)

const (
	mostExtents   = 8
	longestRun    = 40
	greatestFirst = 1000000
)

// extents returns extents with some numbers: the First and the Many of each.
func extents(numbers ...int) []impl.Extent {
	var list []impl.Extent
	for pair := range slices.Chunk(numbers, 2) {
		list = append(list, impl.Extent{First: pair[0], Many: pair[1]})
	}
	return list
}

// spacedExtents returns extents of so many numbers each, of which the next one begins one number too late to go on.
func spacedExtents(size int, many int) []impl.Extent {
	var list []impl.Extent
	for n := 0; n < size; n++ {
		list = append(list, impl.Extent{First: n * (many + 1), Many: many})
	}
	return list
}

// withExtent returns a list with another extent at one place.
func withExtent(list []impl.Extent, n int, e impl.Extent) []impl.Extent {
	list = slices.Clone(list)
	list[n] = e
	return list
}

// numbersIn reckons the numbers of extents.
func numbersIn(list []impl.Extent) []int {
	var numbers []int
	for _, e := range list {
		numbers = append(numbers, numbersFromTo(e.First, e.First+e.Many-1)...)
	}
	return numbers
}

// isWithin reports whether an extent keeps its own limits.
func isWithin(e impl.Extent) bool {
	return e.First == min(max(e.First, 0), greatestFirst) && e.Many == min(max(e.Many, 1), longestRun)
}

// areExtents reckons whether extents are valid. Numbers far out of their limits are never taken together.
func areExtents(list []impl.Extent) bool {
	for n, e := range list {
		if !isWithin(e) || n > 0 && e.First-list[n-1].First == list[n-1].Many {
			return false
		}
	}
	return len(list) <= mostExtents
}

// waysToTell are all ways to tell numbers as runs, as long as possible or not, valid or not.
func waysToTell(numbers []int) [][]impl.Extent {
	if len(numbers) == 0 {
		return [][]impl.Extent{nil}
	}
	var ways [][]impl.Extent
	for many := 1; many <= len(numbers); many++ {
		if numbers[many-1] != numbers[0]+many-1 {
			break
		}
		for _, rest := range waysToTell(numbers[many:]) {
			ways = append(ways, append(extents(numbers[0], many), rest...))
		}
	}
	return ways
}

// tellByTrying looks for valid extents among all ways to tell numbers.
func tellByTrying(numbers []int) ([]impl.Extent, bool) {
	var valid [][]impl.Extent
	for _, way := range waysToTell(numbers) {
		if areExtents(way) {
			valid = append(valid, way)
		}
	}
	if len(valid) == 0 {
		return nil, false
	}
	return slices.MinFunc(valid, func(a []impl.Extent, b []impl.Extent) int { return len(a) - len(b) }), true
}

// wrongExtents are extents that do not keep their own limits: by one, by far, and such that their end is no int.
func wrongExtents() []impl.Extent {
	return extents(
		-1, 1, -2, 5, math.MinInt, 1, greatestFirst+1, 1, greatestFirst+2, 40, math.MaxInt, 1,
		0, 0, 5, 0, 5, -1, 5, -40, 5, math.MinInt, 5, 41, 5, 42, 5, math.MaxInt,
		greatestFirst, 0, greatestFirst, 41, -1, 0, -1, 41, greatestFirst+1, 0,
		math.MaxInt, math.MaxInt, math.MinInt, math.MinInt, math.MinInt, math.MaxInt, math.MaxInt, math.MinInt,
	)
}

// edgeExtents are extents at and beside all limits, some of which go on where others end.
func edgeExtents() []impl.Extent {
	var list []impl.Extent
	for _, first := range []int{-1, 0, 1, 2, 40, 41, greatestFirst - 1, greatestFirst, greatestFirst + 1} {
		for _, many := range []int{-1, 0, 1, 2, 39, 40, 41} {
			list = append(list, impl.Extent{First: first, Many: many})
		}
	}
	return list
}

// edgeLists are all lists of at most two of edgeExtents.
func edgeLists() [][]impl.Extent {
	lists := [][]impl.Extent{nil, {}}
	for _, e := range edgeExtents() {
		lists = append(lists, []impl.Extent{e})
		for _, next := range edgeExtents() {
			lists = append(lists, []impl.Extent{e, next})
		}
	}
	return lists
}

// longLists are valid lists of up to the most extents: with gaps, of the same extent, descending, and up to the greatest First.
func longLists() [][]impl.Extent {
	var lists [][]impl.Extent
	for size := 1; size <= mostExtents; size++ {
		for _, many := range []int{1, 2, 7, 39, 40} {
			spaced := spacedExtents(size, many)
			descending := slices.Clone(spaced)
			slices.Reverse(descending)
			lists = append(lists, spaced, descending)
			lists = append(lists, slices.Repeat(extents(3, many), size), slices.Repeat(extents(greatestFirst, many), size))
		}
	}
	return lists
}

// validLists are valid lists of extents.
func validLists() [][]impl.Extent {
	lists := longLists()
	for _, list := range edgeLists() {
		if areExtents(list) {
			lists = append(lists, list)
		}
	}
	return append(lists, extents(5, 3, 3, 2, 9, 1), extents(5, 3, 6, 40, 6, 1, 0, 40, 41, 2), extents(7, 2, 5, 2, 6, 1, 9, 5))
}

// listsWithWrongExtents are lists of every size with a wrong extent at every place.
func listsWithWrongExtents() [][]impl.Extent {
	var lists [][]impl.Extent
	for size := 1; size <= mostExtents; size++ {
		for n := 0; n < size; n++ {
			for _, e := range wrongExtents() {
				lists = append(lists, withExtent(spacedExtents(size, 1), n, e), withExtent(spacedExtents(size, 40), n, e))
			}
		}
	}
	return lists
}

// listsThatGoOn are lists of every size in which one extent, at every place, goes on where the one before ends.
func listsThatGoOn() [][]impl.Extent {
	var lists [][]impl.Extent
	for size := 2; size <= mostExtents; size++ {
		for n := 1; n < size; n++ {
			for _, many := range []int{1, 2, 39, 40} {
				list := spacedExtents(size, many)
				end := list[n-1].First + many
				lists = append(lists, withExtent(list, n, impl.Extent{First: end, Many: 1}))
				lists = append(lists, withExtent(list, n, impl.Extent{First: end, Many: 40}))
			}
		}
	}
	return append(lists, extents(greatestFirst-1, 1, greatestFirst, 1), extents(greatestFirst-40, 40, greatestFirst, 40))
}

// listsOfTooMany are lists of too many extents, none of them wrong.
func listsOfTooMany() [][]impl.Extent {
	var lists [][]impl.Extent
	for _, size := range []int{9, 10, 15, 16, 17, 100} {
		lists = append(lists, spacedExtents(size, 1), spacedExtents(size, 40), slices.Repeat(extents(3, 2), size))
	}
	return lists
}

// invalidLists are lists of extents that are not valid.
func invalidLists() [][]impl.Extent {
	lists := slices.Concat(listsWithWrongExtents(), listsThatGoOn(), listsOfTooMany())
	for _, list := range edgeLists() {
		if !areExtents(list) {
			lists = append(lists, list)
		}
	}
	return lists
}

// placesFarOff are places at which no extents have a number.
func placesFarOff() []int {
	return []int{math.MinInt, math.MinInt + 1, -320, -2, -1, 320, 321, 1000000, math.MaxInt - 1, math.MaxInt}
}

func expectExtentsValid(t *testing.T, list []impl.Extent, valid bool) {
	t.Helper()
	if got := impl.ExtentsValid(list); got != valid {
		t.Errorf("ExtentsValid(%v) = %t", list, got)
	}
}

func expectTold(t *testing.T, numbers []int, list []impl.Extent, told bool) {
	t.Helper()
	if got, gotTold := impl.ExtentsOf(numbers); gotTold != told || !slices.Equal(got, list) {
		t.Errorf("ExtentsOf(%v) = %v, %t, not %v, %t", numbers, got, gotTold, list, told)
	}
}

// expectNotTold expects what there is for numbers that no valid extents are.
func expectNotTold(t *testing.T, numbers []int) {
	t.Helper()
	expectTold(t, numbers, nil, false)
}

func expectList(t *testing.T, list []impl.Extent, numbers []int) {
	t.Helper()
	if got := impl.ExtentsList(list); !slices.Equal(got, numbers) {
		t.Errorf("ExtentsList(%v) = %v, not %v", list, got, numbers)
	}
}

func expectAt(t *testing.T, list []impl.Extent, n int, number int) {
	t.Helper()
	if got := impl.ExtentAt(list, n); got != number {
		t.Errorf("ExtentAt(%v, %d) = %d, not %d", list, n, got, number)
	}
}

func TestLimitsOfExtents(t *testing.T) {
	if impl.MaxExtents != mostExtents || impl.MaxRun != longestRun {
		t.Fatal(impl.MaxExtents, impl.MaxRun)
	}
}

// P56: extents have numbers.

func TestP56NoExtentsAreValid(t *testing.T) {
	expectExtentsValid(t, nil, true)
	expectExtentsValid(t, []impl.Extent{}, true)
}

func TestP56SomeExtents(t *testing.T) {
	expectExtentsValid(t, extents(5, 3, 3, 2, 9, 1), true)
	expectExtentsValid(t, extents(5, 2, 7, 1), false)
	expectExtentsValid(t, extents(5, 0), false)
	expectExtentsValid(t, extents(0, 0), false)
	expectExtentsValid(t, extents(0, 1), true)
}

func TestP56FirstAndManyHaveBounds(t *testing.T) {
	for many := -1; many <= longestRun+2; many++ {
		for _, first := range []int{0, 1, 500, greatestFirst - 1, greatestFirst} {
			expectExtentsValid(t, extents(first, many), many >= 1 && many <= longestRun)
		}
		for _, first := range []int{math.MinInt, -2, -1, greatestFirst + 1, greatestFirst + 2, math.MaxInt} {
			expectExtentsValid(t, extents(first, many), false)
		}
	}
	for _, many := range []int{math.MinInt, -longestRun, 100, math.MaxInt} {
		expectExtentsValid(t, extents(5, many), false)
	}
}

func TestP56ThereAreAtMostEightExtents(t *testing.T) {
	for size := 0; size <= 17; size++ {
		for _, many := range []int{1, 40} {
			expectExtentsValid(t, spacedExtents(size, many), size <= 8)
			expectExtentsValid(t, slices.Repeat(extents(3, many), size), size <= 8)
		}
	}
	for _, list := range listsOfTooMany() {
		expectExtentsValid(t, list, false)
	}
}

func TestP56NoExtentGoesOnWhereTheOneBeforeEnds(t *testing.T) {
	for many := 1; many <= longestRun; many++ {
		for next := 1; next <= longestRun; next++ {
			expectExtentsValid(t, extents(50, many, 50+many, next), false)
			// It begins one number later or earlier, with the last one or at the same First.
			expectExtentsValid(t, extents(50, many, 50+many+1, next), true)
			expectExtentsValid(t, extents(50, many, 50+many-1, next), true)
			expectExtentsValid(t, extents(50, many, 50, next), true)
			// The one before goes on where this one ends, or ends with it.
			expectExtentsValid(t, extents(50, many, 50-next, next), true)
			expectExtentsValid(t, extents(50, many, 50+many-next, next), true)
		}
	}
	for _, list := range listsThatGoOn() {
		expectExtentsValid(t, list, false)
	}
}

// Only the one right before counts: an extent may go on where an earlier one ends.
func TestP56AnExtentMayGoOnWhereAnEarlierOneEnds(t *testing.T) {
	expectExtentsValid(t, extents(5, 2, 9, 1, 7, 2), true)
	expectExtentsValid(t, extents(5, 2, 9, 1, 20, 1, 7, 2), true)
	expectExtentsValid(t, extents(5, 2, 9, 1, 10, 2), false)
	expectExtentsValid(t, extents(7, 2, 5, 2, 9, 2), true)
}

func TestP56ExtentsAtTheGreatestFirst(t *testing.T) {
	expectExtentsValid(t, extents(greatestFirst, 1, greatestFirst, 40), true)
	expectExtentsValid(t, extents(greatestFirst-1, 1, greatestFirst, 1), false)
	expectExtentsValid(t, extents(greatestFirst-1, 2, greatestFirst, 1), true)
	expectExtentsValid(t, extents(greatestFirst-40, 40, greatestFirst, 40), false)
	expectExtentsValid(t, extents(greatestFirst, 40, greatestFirst+40, 1), false)
	expectExtentsValid(t, extents(greatestFirst, 1, greatestFirst+2, 1), false)
}

func TestP56WrongExtentsAreNotValidWhereverTheyStand(t *testing.T) {
	for _, list := range listsWithWrongExtents() {
		expectExtentsValid(t, list, false)
	}
}

func TestP56AllListsAtTheLimits(t *testing.T) {
	for _, list := range edgeLists() {
		expectExtentsValid(t, list, areExtents(list))
	}
}

func TestP56WithAnEmptyOneBeforeExtentsAreNotValid(t *testing.T) {
	for _, list := range validLists() {
		for _, first := range []int{0, 3, 1000, greatestFirst} {
			expectExtentsValid(t, append(extents(first, 0), list...), false)
		}
	}
}

func TestP56WithoutSomeOfTheFirstOnesExtentsAreValid(t *testing.T) {
	for _, list := range validLists() {
		for n := range list {
			expectExtentsValid(t, list[n:], true)
		}
		expectExtentsValid(t, list[len(list):], true)
	}
}

// P7: extents are the numbers.

func TestP7NoNumbersAreNoExtents(t *testing.T) {
	expectTold(t, nil, nil, true)
	expectTold(t, []int{}, nil, true)
	expectList(t, nil, nil)
	expectList(t, []impl.Extent{}, nil)
}

func TestP7ExtentsOfSomeNumbers(t *testing.T) {
	expectTold(t, []int{5, 6, 7, 3, 4, 9}, extents(5, 3, 3, 2, 9, 1), true)
	expectTold(t, []int{0}, extents(0, 1), true)
	expectTold(t, []int{0, 1}, extents(0, 2), true)
	expectTold(t, []int{0, 2}, extents(0, 1, 2, 1), true)
	// The same number twice, and descending numbers, are extents of their own.
	expectTold(t, []int{5, 5}, extents(5, 1, 5, 1), true)
	expectTold(t, []int{5, 6, 6, 7}, extents(5, 2, 6, 2), true)
	expectTold(t, []int{0, 0, 0}, extents(0, 1, 0, 1, 0, 1), true)
	expectTold(t, []int{7, 6, 5}, extents(7, 1, 6, 1, 5, 1), true)
	expectTold(t, []int{5, 6, 7, 5, 6, 7}, extents(5, 3, 5, 3), true)
	expectTold(t, []int{1, 2, 9, 3, 4}, extents(1, 2, 9, 1, 3, 2), true)
}

func TestP7RunsOfOne(t *testing.T) {
	for size := 0; size <= mostExtents; size++ {
		for _, step := range []int{2, 3, 40, 41, -1, -2, 0} {
			var numbers []int
			var list []impl.Extent
			for n := 0; n < size; n++ {
				numbers = append(numbers, 100+n*step)
				list = append(list, impl.Extent{First: 100 + n*step, Many: 1})
			}
			expectTold(t, numbers, list, true)
			expectList(t, list, numbers)
		}
	}
}

func TestP7NumbersThatNeedMoreThanEightExtents(t *testing.T) {
	expectNotTold(t, []int{1, 3, 5, 7, 9, 11, 13, 15, 17})
	expectNotTold(t, []int{9, 8, 7, 6, 5, 4, 3, 2, 1})
	expectNotTold(t, slices.Repeat([]int{5}, 9))
	expectTold(t, slices.Repeat([]int{5}, 8), slices.Repeat(extents(5, 1), 8), true)
	for _, list := range listsOfTooMany() {
		expectNotTold(t, numbersIn(list))
	}
}

func TestP7RunsHaveAtMostFortyNumbers(t *testing.T) {
	for _, first := range []int{0, 1, 500, greatestFirst - 40, greatestFirst - 1, greatestFirst} {
		for many := 1; many <= 3*longestRun; many++ {
			numbers := numbersFromTo(first, first+many-1)
			if many <= 40 {
				expectTold(t, numbers, extents(first, many), true)
				expectList(t, extents(first, many), numbers)
			} else {
				expectNotTold(t, numbers)
				expectList(t, extents(first, many), nil)
			}
		}
	}
}

// Longer runs cannot be told, as the rest would go on where the first extent ends.
func TestP7LongRunsAreNotToldWhereverTheyStand(t *testing.T) {
	for size := 1; size <= mostExtents; size++ {
		for n := 0; n < size; n++ {
			for _, many := range []int{41, 42, 80, 81} {
				expectNotTold(t, numbersIn(withExtent(spacedExtents(size, 2), n, impl.Extent{First: 5000, Many: many})))
			}
		}
	}
	expectNotTold(t, numbersFromTo(0, 100000))
	expectNotTold(t, slices.Repeat([]int{0, 1}, 50000))
}

func TestP7TheMostNumbersAreTold(t *testing.T) {
	full := spacedExtents(mostExtents, longestRun)
	numbers := numbersIn(full)
	expectTold(t, numbers, full, true)
	expectList(t, full, numbers)
	for _, more := range []int{-1, 0, 326, 327, 328, 329, greatestFirst, greatestFirst + 1, math.MinInt, math.MaxInt} {
		expectNotTold(t, append(slices.Clone(numbers), more))
		expectNotTold(t, append([]int{more}, numbers...))
	}
}

// A number of a run is left out, or there twice.
func TestP7RunsThatAreBroken(t *testing.T) {
	for k := 1; k < longestRun-1; k++ {
		expectTold(t, slices.Delete(numbersFromTo(0, 39), k, k+1), extents(0, k, k+1, 39-k), true)
		expectTold(t, slices.Insert(numbersFromTo(0, 39), k, k), extents(0, k+1, k, 40-k), true)
		expectTold(t, slices.Insert(numbersFromTo(0, 39), k, 900), extents(0, k, 900, 1, k, 40-k), true)
		expectTold(t, slices.Concat(numbersFromTo(k, 39), numbersFromTo(0, k-1)), extents(k, 40-k, 0, k), true)
	}
}

func TestP7RunsGoOnBehindTheGreatestFirst(t *testing.T) {
	for many := 1; many <= longestRun; many++ {
		for back := 0; back < many; back++ {
			first := greatestFirst - back
			expectTold(t, numbersFromTo(first, first+many-1), extents(first, many), true)
			expectList(t, extents(first, many), numbersFromTo(first, first+many-1))
		}
	}
	expectTold(t, []int{greatestFirst, greatestFirst + 1, greatestFirst}, extents(greatestFirst, 2, greatestFirst, 1), true)
	expectNotTold(t, []int{greatestFirst + 1})
	expectNotTold(t, []int{greatestFirst, greatestFirst + 1, greatestFirst + 1})
	expectNotTold(t, []int{greatestFirst, greatestFirst + 2})
	expectNotTold(t, []int{greatestFirst + 1, greatestFirst})
}

func TestP7NumbersOutOfBoundsAreNotTold(t *testing.T) {
	expectNotTold(t, []int{-1})
	expectNotTold(t, []int{-1, 0})
	expectNotTold(t, []int{0, -1})
	expectNotTold(t, []int{-2, -1, 0, 1})
	expectNotTold(t, []int{math.MaxInt, math.MinInt})
	expectNotTold(t, []int{math.MinInt, math.MaxInt})
	expectNotTold(t, []int{math.MaxInt - 1, math.MaxInt, math.MinInt, math.MinInt + 1})
	for _, wrong := range []int{-1, -2, greatestFirst + 1, greatestFirst + 40, math.MinInt, math.MaxInt} {
		for n := 0; n < mostExtents; n++ {
			expectNotTold(t, withNumber([]int{0, 2, 4, 6, 8, 10, 12, 14}, n, wrong))
		}
		for n := 0; n < longestRun; n++ {
			expectNotTold(t, withNumber(numbersFromTo(0, 39), n, wrong))
		}
	}
}

// expectToldByTrying expects what the document says about numbers, and what promise 7 does.
func expectToldByTrying(t *testing.T, numbers []int) {
	t.Helper()
	list, told := tellByTrying(numbers)
	expectTold(t, numbers, list, told)
	got, gotTold := impl.ExtentsOf(numbers)
	if !gotTold {
		return
	}
	expectExtentsValid(t, got, true)
	expectList(t, got, numbers)
	if len(got) > len(numbers) {
		t.Errorf("ExtentsOf(%v) = %v: more than the numbers", numbers, got)
	}
}

func TestP7ExtentsAreTheNumbers(t *testing.T) {
	edges := []int{math.MinInt, -1, 0, 1, 2, greatestFirst - 1, greatestFirst, greatestFirst + 1, math.MaxInt}
	for size := 0; size <= 4; size++ {
		for _, numbers := range listsOf(edges, size) {
			expectToldByTrying(t, numbers)
		}
	}
	for _, numbers := range listsOf([]int{4, 5, 6, 7}, 6) {
		expectToldByTrying(t, numbers)
	}
	for _, numbers := range listsOf([]int{5, 6}, 10) {
		expectToldByTrying(t, numbers)
	}
}

func TestP7OtherExtentsHaveNoNumbers(t *testing.T) {
	for _, list := range invalidLists() {
		expectList(t, list, nil)
	}
}

// P57: listed extents can be told.

func TestP57ListedExtentsCanBeTold(t *testing.T) {
	for _, list := range validLists() {
		expectList(t, list, numbersIn(list))
		expectTold(t, impl.ExtentsList(list), list, true)
	}
}

// Extents that go on are no valid ones: their numbers are told in fewer, or not at all.
func TestP57ExtentsThatGoOnAreToldTogether(t *testing.T) {
	for first := 1; first < longestRun; first++ {
		expectTold(t, numbersIn(extents(7, first, 7+first, longestRun-first)), extents(7, longestRun), true)
		expectNotTold(t, numbersIn(extents(7, first, 7+first, longestRun-first+1)))
	}
	ones := slices.Collect(slices.Chunk(numbersFromTo(20, 59), 1))
	expectTold(t, slices.Concat(ones...), extents(20, 40), true)
}

// P58: numbers have places.

func TestP58NumbersOfSomeExtents(t *testing.T) {
	list := extents(5, 3, 3, 2, 9, 1)
	for n, number := range []int{5, 6, 7, 3, 4, 9, -1, -1} {
		expectAt(t, list, n, number)
	}
	expectAt(t, list, -1, -1)
	expectAt(t, extents(0, 1), 0, 0)
	expectAt(t, extents(0, 1), 1, -1)
	expectAt(t, nil, 0, -1)
	expectAt(t, nil, -1, -1)
}

func TestP58NumbersAtTheEndsOfExtents(t *testing.T) {
	full := spacedExtents(mostExtents, longestRun)
	for n := range full {
		expectAt(t, full, n*40, n*41)
		expectAt(t, full, n*40+39, n*41+39)
	}
	expectAt(t, full, 319, 326)
	expectAt(t, full, 320, -1)
	last := extents(greatestFirst, 40)
	expectAt(t, last, 0, greatestFirst)
	expectAt(t, last, 1, greatestFirst+1)
	expectAt(t, last, 39, greatestFirst+39)
	expectAt(t, last, 40, -1)
}

func TestP58NumbersHavePlaces(t *testing.T) {
	for _, list := range validLists() {
		numbers := numbersIn(list)
		for n, number := range numbers {
			expectAt(t, list, n, number)
		}
		for more := 0; more <= longestRun; more++ {
			expectAt(t, list, len(numbers)+more, -1)
		}
		for _, n := range placesFarOff() {
			expectAt(t, list, n, -1)
		}
	}
}

// At the places of the extents before the wrong one there is no number, either.
func TestP58OtherExtentsHaveNoNumbersAtAnyPlace(t *testing.T) {
	for _, list := range invalidLists() {
		for _, n := range slices.Concat(placesFarOff(), []int{0, 1, 2, 6, 7, 8, 39, 40, 41, 279, 280, 319}) {
			expectAt(t, list, n, -1)
		}
	}
}

// What is given and what is returned share no memory.

// extentCall is a function of the chapter that takes extents, with all other arguments, and the list that it returns.
type extentCall struct {
	name string
	call func(list []impl.Extent) []int
}

func extentCalls() []extentCall {
	calls := []extentCall{
		{"ExtentsValid", func(list []impl.Extent) []int { impl.ExtentsValid(list); return nil }},
		{"ExtentsList", func(list []impl.Extent) []int { return impl.ExtentsList(list) }},
	}
	for _, n := range []int{math.MinInt, -1, 0, 1, 2, 40, 319, 320, math.MaxInt} {
		calls = append(calls, extentCall{"ExtentAt", func(list []impl.Extent) []int { impl.ExtentAt(list, n); return nil }})
	}
	return calls
}

// extentsWithRoom returns extents with room behind them, and the extents together with that room.
func extentsWithRoom(list []impl.Extent) ([]impl.Extent, []impl.Extent) {
	room := append(slices.Clone(list), extents(71, 2, 73, 4)...)
	return room[:len(list)], room
}

// listsInMemory are lists of extents for the tests on memory.
func listsInMemory() [][]impl.Extent {
	return append(validLists(), invalidLists()...)
}

func TestExtentsGivenAreNotWrittenTo(t *testing.T) {
	for _, c := range extentCalls() {
		for _, list := range listsInMemory() {
			given, room := extentsWithRoom(list)
			before := slices.Clone(room)
			overwriteLists([][]int{c.call(given)})
			if !slices.Equal(room, before) {
				t.Fatalf("%s(%v) writes into it, or shares memory with it", c.name, list)
			}
		}
	}
}

func TestNumbersReturnedShareNoMemory(t *testing.T) {
	for _, c := range extentCalls() {
		for _, list := range listsInMemory() {
			other := c.call(list)
			otherBefore := slices.Clone(other)
			overwriteLists([][]int{c.call(list)})
			if !slices.Equal(other, otherBefore) || !slices.Equal(c.call(list), otherBefore) {
				t.Fatalf("%s(%v) shares memory with another result", c.name, list)
			}
		}
	}
}

// numberLists are numbers that can be told, and numbers that cannot.
func numberLists() [][]int {
	lists := [][]int{nil, {-1, 0}, {greatestFirst + 1}, {5, 6, -1}, {math.MaxInt}, numbersFromTo(0, 40)}
	for _, list := range slices.Concat(validLists(), listsThatGoOn(), listsOfTooMany()) {
		lists = append(lists, numbersIn(list))
	}
	return lists
}

// overwriteExtents writes into all memory of some extents.
func overwriteExtents(list []impl.Extent) {
	all := list[:cap(list)]
	for n := range all {
		all[n] = impl.Extent{First: 4321, Many: 34}
	}
}

func TestNumbersGivenAreNotWrittenTo(t *testing.T) {
	for _, numbers := range numberLists() {
		room := append(slices.Clone(numbers), 81, 82, 83)
		given := room[:len(numbers)]
		before := slices.Clone(room)
		list, _ := impl.ExtentsOf(given)
		overwriteExtents(list)
		if !slices.Equal(room, before) {
			t.Fatalf("ExtentsOf(%v) writes into it, or shares memory with it", numbers)
		}
	}
}

func TestExtentsReturnedShareNoMemory(t *testing.T) {
	for _, numbers := range numberLists() {
		other, _ := impl.ExtentsOf(numbers)
		otherBefore := slices.Clone(other)
		list, _ := impl.ExtentsOf(numbers)
		overwriteExtents(list)
		if !slices.Equal(other, otherBefore) {
			t.Fatalf("ExtentsOf(%v) shares memory with another result", numbers)
		}
		if again, _ := impl.ExtentsOf(numbers); !slices.Equal(again, otherBefore) {
			t.Fatalf("ExtentsOf(%v) keeps its result", numbers)
		}
	}
}
