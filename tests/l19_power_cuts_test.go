package tests

import (
	"math"
	"slices"
	"testing"

	"loop.example/flashfiles/impl"
)

const mostPuts = 20

// puts returns writes with some numbers: the file, the place and the value of each.
func puts(numbers ...int) []impl.Put {
	var list []impl.Put
	for own := range slices.Chunk(numbers, 3) {
		list = append(list, impl.Put{File: own[0], Place: own[1], Value: own[2]})
	}
	return list
}

// putAt returns a write of a value to the n-th of all places of all files.
func putAt(n int, value int) impl.Put {
	return impl.Put{File: n / placesOfFile, Place: n % placesOfFile, Value: value}
}

// putOf returns the write whose page is told.
func putOf(p impl.Page) impl.Put {
	return impl.Put{File: p.File, Place: p.Place, Value: p.Value}
}

// steppedPuts returns so many writes, each of another value, to places that lie so many apart among all places, from one on.
func steppedPuts(size int, first int, step int) []impl.Put {
	var list []impl.Put
	for k := 0; k < size; k++ {
		list = append(list, putAt((first+k*step)%allPlaces, (9980+k)%10000))
	}
	return list
}

// withPut returns a list with another write at one place.
func withPut(list []impl.Put, n int, w impl.Put) []impl.Put {
	list = slices.Clone(list)
	list[n] = w
	return list
}

// withPutMore returns a list with a write more, at one place of it.
func withPutMore(list []impl.Put, n int, w impl.Put) []impl.Put {
	return slices.Insert(slices.Clone(list), n, w)
}

// arePuts reckons whether writes are valid.
func arePuts(list []impl.Put) bool {
	for _, w := range list {
		if w != (impl.Put{File: min(max(w.File, 0), 7), Place: min(max(w.Place, 0), 5), Value: min(max(w.Value, 0), 9999)}) {
			return false
		}
	}
	return len(list) <= mostPuts
}

// roomFor reckons how many of some writes a new device of so many blocks has room for.
func roomFor(many int, list []impl.Put) int {
	return min(len(list), many*pagesOfBlock)
}

// deviceOfPuts reckons the device after some writes: its pages have one after the other, as long as there are any.
func deviceOfPuts(many int, list []impl.Put) []impl.Block {
	pages := make([]impl.Page, many*pagesOfBlock)
	for n, w := range list[:roomFor(many, list)] {
		pages[n] = written(w.File, w.Place, w.Value, n+1)
	}
	var d []impl.Block
	for own := range slices.Chunk(pages, pagesOfBlock) {
		d = append(d, impl.Block{Pages: own})
	}
	return d
}

// lastValue reckons the value of the last write to a file and a place: it looks from the last one on.
func lastValue(list []impl.Put, own fileAndPlace) int {
	for _, w := range slices.Backward(list) {
		if own == (fileAndPlace{w.File, w.Place}) {
			return w.Value
		}
	}
	return -1
}

// everyPlace are all places of all files.
func everyPlace() []fileAndPlace {
	var places []fileAndPlace
	for n := 0; n < allPlaces; n++ {
		places = append(places, fileAndPlace{n / placesOfFile, n % placesOfFile})
	}
	return places
}

// goodPuts are writes with the least, an ordinary and the greatest file, place and value.
func goodPuts() []impl.Put {
	var list []impl.Put
	for _, p := range validPages() {
		if p.Full {
			list = append(list, putOf(p))
		}
	}
	slices.SortFunc(list, comparePuts)
	return slices.Compact(list)
}

// comparePuts puts writes in some order, in which equal ones stand together.
func comparePuts(a impl.Put, b impl.Put) int {
	return slices.Compare([]int{a.File, a.Place, a.Value}, []int{b.File, b.Place, b.Value})
}

// fieldsOfPuts are the numbers of a write: those of its page but for the stamp.
func fieldsOfPuts() []pageField {
	return pageFields()[:3]
}

// wrongPuts are writes with one number out of bounds, or several.
func wrongPuts() []impl.Put {
	var list []impl.Put
	for _, p := range someWritten() {
		for _, f := range fieldsOfPuts() {
			for _, n := range beside(f) {
				list = append(list, putOf(withField(p, f.name, n)))
			}
		}
	}
	return append(list, puts(-1, -1, -1, 8, 6, 10000, -1, 6, 5, 8, -1, 5, 3, -1, 10000, 3, 6, -1, 8, 2, -1, math.MinInt, math.MinInt, math.MinInt, math.MaxInt, math.MaxInt, math.MaxInt)...)
}

// someWrongPuts are a few of them: every number one less and one more than there may be.
func someWrongPuts() []impl.Put {
	return puts(-1, 2, 45, 8, 2, 45, 3, -1, 45, 3, 6, 45, 3, 2, -1, 3, 2, 10000)
}

// someCounts are numbers of writes: none, one, as many as one block and two have room for, one more, and the most.
func someCounts() []int {
	return []int{0, 1, 2, pagesOfBlock - 1, pagesOfBlock, pagesOfBlock + 1, 2 * pagesOfBlock, 2*pagesOfBlock + 1, mostPuts - 1, mostPuts}
}

// stepsOfPuts are how far the places of writes are apart: all the same, next to each other, in descending order, in other files, or of two, three, six or eight places in turn.
func stepsOfPuts() []int {
	return []int{0, 1, allPlaces - 1, 7, 29, 24, 16, 8, 6}
}

// putsInBounds are valid writes: of every number of them, with all, some or no places different, and with numbers at the limits.
func putsInBounds() [][]impl.Put {
	lists := [][]impl.Put{nil, {}}
	for size := 1; size <= mostPuts; size++ {
		for _, step := range stepsOfPuts() {
			lists = append(lists, steppedPuts(size, 0, step), steppedPuts(size, allPlaces-1, step))
		}
		lists = append(lists, goodPuts()[:size], goodPuts()[len(goodPuts())-size:])
	}
	for _, w := range goodPuts() {
		lists = append(lists, []impl.Put{w}, slices.Repeat([]impl.Put{w}, mostPuts))
	}
	return lists
}

// somePutsInBounds are a few of them, for tests with many other arguments.
func somePutsInBounds() [][]impl.Put {
	lists := [][]impl.Put{nil, goodPuts()[:mostPuts]}
	for _, size := range someCounts()[1:] {
		for _, step := range []int{0, 1, 29, 16} {
			lists = append(lists, steppedPuts(size, 20, step))
		}
	}
	return lists
}

// putsWithWrongOne are lists of some sizes with a wrong write at every place.
func putsWithWrongOne() [][]impl.Put {
	var lists [][]impl.Put
	for _, size := range someCounts()[1:] {
		for n := 0; n < size; n++ {
			for _, w := range wrongPuts() {
				lists = append(lists, withPut(steppedPuts(size, 20, 1), n, w))
			}
		}
	}
	for _, w := range wrongPuts() {
		lists = append(lists, slices.Repeat([]impl.Put{w}, mostPuts), []impl.Put{w, w})
	}
	return lists
}

// tooManyPuts are lists of too many writes, none of them wrong, or one.
func tooManyPuts() [][]impl.Put {
	var lists [][]impl.Put
	for _, size := range []int{21, 22, 24, 40, 48, 49, 100, 1000} {
		for _, step := range stepsOfPuts() {
			lists = append(lists, steppedPuts(size, 20, step))
		}
		lists = append(lists, make([]impl.Put, size))
		for _, n := range []int{0, 1, mostPuts - 1, mostPuts, size - 1} {
			lists = append(lists, withPut(steppedPuts(size, 20, 1), n, impl.Put{File: -1}))
		}
	}
	return lists
}

func putsOutOfBounds() [][]impl.Put {
	return append(putsWithWrongOne(), tooManyPuts()...)
}

// somePutsOutOfBounds are a few of every kind, for tests with many other arguments.
func somePutsOutOfBounds() [][]impl.Put {
	lists := [][]impl.Put{steppedPuts(mostPuts+1, 20, 0), steppedPuts(mostPuts+1, 20, 1), steppedPuts(2*mostPuts, 20, 29)}
	for _, size := range someCounts()[1:] {
		for _, w := range someWrongPuts() {
			for _, n := range blocksOfSize(size) {
				lists = append(lists, withPut(steppedPuts(size, 20, 1), n, w))
			}
		}
	}
	return lists
}

// countsOfNoDevice are numbers of blocks that no device has.
func countsOfNoDevice() []int {
	return []int{0, -1, -2, -4, -mostBlocks, mostBlocks + 1, mostBlocks + 2, 2 * mostBlocks, math.MinInt, math.MinInt + 1, math.MaxInt - 1, math.MaxInt}
}

func expectPutsValid(t *testing.T, list []impl.Put, valid bool) {
	t.Helper()
	before := slices.Clone(list)
	if got := impl.PutsValid(list); got != valid {
		t.Errorf("PutsValid(%v) = %t", list, got)
	}
	if !slices.Equal(list, before) {
		t.Errorf("PutsValid(%v) writes into them: %v", before, list)
	}
}

func expectRun(t *testing.T, many int, list []impl.Put, d []impl.Block, count int) {
	t.Helper()
	before := slices.Clone(list)
	if got, gotCount := impl.RunPuts(many, list); gotCount != count || !sameDevice(got, d) {
		t.Errorf("RunPuts(%d, %v) = %+v, %d, not %+v, %d", many, list, got, gotCount, d, count)
	}
	if !slices.Equal(list, before) {
		t.Errorf("RunPuts(%d, %v) writes into them: %v", many, before, list)
	}
}

// expectNotRun expects what there is for arguments that are not valid.
func expectNotRun(t *testing.T, many int, list []impl.Put) {
	t.Helper()
	expectRun(t, many, list, nil, -1)
}

func expectPutValue(t *testing.T, list []impl.Put, own fileAndPlace, value int) {
	t.Helper()
	before := slices.Clone(list)
	if got := impl.PutValue(list, own.file, own.place); got != value {
		t.Errorf("PutValue(%v, %d, %d) = %d, not %d", list, own.file, own.place, got, value)
	}
	if !slices.Equal(list, before) {
		t.Errorf("PutValue(%v, %d, %d) writes into them: %v", before, own.file, own.place, list)
	}
}

// expectWritten expects of a number of blocks and of valid writes what chapter 19 says.
func expectWritten(t *testing.T, many int, list []impl.Put) {
	t.Helper()
	expectRun(t, many, list, deviceOfPuts(many, list), roomFor(many, list))
}

// expectOnlyLost expects what promise 13 says of writes that are not cut off: every file and place has its last value of those that could be made, and no page if there is none.
func expectOnlyLost(t *testing.T, many int, list []impl.Put) {
	t.Helper()
	expectWritten(t, many, list)
	d, _ := impl.RunPuts(many, list)
	x := impl.TableOf(d)
	made := list[:roomFor(many, list)]
	for _, own := range everyPlace() {
		value := lastValue(made, own)
		expectPutValue(t, made, own, value)
		p, full := impl.ReadPage(d, impl.TableGet(x, own.file, own.place))
		if full != (value != -1) || full && p != written(own.file, own.place, value, p.Stamp) {
			t.Errorf("RunPuts(%d, %v) has %+v, %t at the place %d of file %d, not %d", many, list, p, full, own.place, own.file, value)
		}
	}
}

// expectCutAnywhere expects promise 13 of all beginnings of some writes, from none of them on.
func expectCutAnywhere(t *testing.T, many int, list []impl.Put) {
	t.Helper()
	for cut := 0; cut <= len(list); cut++ {
		expectOnlyLost(t, many, list[:cut])
	}
}

// expectBeginning expects that the pages of every beginning of some writes are the first ones of all.
func expectBeginning(t *testing.T, many int, list []impl.Put) {
	t.Helper()
	d, _ := impl.RunPuts(many, list)
	whole := allPages(d)
	for cut := 0; cut <= len(list); cut++ {
		short, count := impl.RunPuts(many, list[:cut])
		pages := allPages(short)
		if count != countFull(pages) || len(pages) != len(whole) {
			t.Errorf("RunPuts(%d, %v) = %+v, %d", many, list[:cut], short, count)
			continue
		}
		if !slices.Equal(pages[:count], whole[:count]) {
			t.Errorf("RunPuts(%d, %v) = %+v, which is no beginning of %+v", many, list[:cut], short, d)
		}
	}
}

func TestLimitsOfPuts(t *testing.T) {
	if impl.MaxPuts != 20 {
		t.Fatal(impl.MaxPuts)
	}
}

// P85: writes have places.

func TestP85NoWritesAreValid(t *testing.T) {
	expectPutsValid(t, nil, true)
	expectPutsValid(t, []impl.Put{}, true)
	expectPutsValid(t, make([]impl.Put, 0, 30), true)
}

func TestP85SomeWrites(t *testing.T) {
	expectPutsValid(t, puts(1, 0, 5, 1, 1, 6, 1, 0, 7, 2, 0, 8, 2, 0, 9), true)
	expectPutsValid(t, puts(0, 0, 0), true)
	expectPutsValid(t, puts(7, 5, 9999), true)
	expectPutsValid(t, puts(7, 0, 0), true)
	expectPutsValid(t, puts(0, 5, 0), true)
	expectPutsValid(t, puts(0, 0, 9999), true)
	expectPutsValid(t, puts(-1, 0, 0), false)
	expectPutsValid(t, puts(8, 0, 0), false)
	expectPutsValid(t, puts(0, -1, 0), false)
	expectPutsValid(t, puts(0, 6, 0), false)
	expectPutsValid(t, puts(0, 0, -1), false)
	expectPutsValid(t, puts(0, 0, 10000), false)
}

func TestP85AtMostTwentyWrites(t *testing.T) {
	for size := 0; size <= 3*mostPuts; size++ {
		for _, step := range stepsOfPuts() {
			expectPutsValid(t, steppedPuts(size, 20, step), size <= 20)
		}
		expectPutsValid(t, make([]impl.Put, size), size <= 20)
	}
	for _, list := range tooManyPuts() {
		expectPutsValid(t, list, false)
	}
}

// Of each number all that there may be are valid, and none on either side of them.
func TestP85EveryFileEveryPlaceAndEveryValue(t *testing.T) {
	for _, p := range someWritten() {
		for _, f := range fieldsOfPuts() {
			for n := -50; n <= f.greatest+50; n++ {
				expectPutsValid(t, []impl.Put{putOf(withField(p, f.name, n))}, n >= 0 && n <= f.greatest)
			}
		}
	}
}

func TestP85ValidWrites(t *testing.T) {
	for _, list := range putsInBounds() {
		expectPutsValid(t, list, true)
	}
}

func TestP85AWrongWriteIsNotValidWhereverItStands(t *testing.T) {
	for _, list := range putsWithWrongOne() {
		expectPutsValid(t, list, false)
	}
	for size := 1; size <= mostPuts; size++ {
		for n := 0; n < size; n++ {
			for _, w := range someWrongPuts() {
				expectPutsValid(t, withPut(goodPuts()[:size], n, w), false)
			}
		}
	}
}

func TestP85AllNumbersAtTheLimits(t *testing.T) {
	for _, file := range []int{math.MinInt, -1, 0, 3, 7, 8, math.MaxInt} {
		for _, place := range []int{math.MinInt, -1, 0, 2, 5, 6, math.MaxInt} {
			for _, value := range []int{math.MinInt, -1, 0, 45, 9999, 10000, math.MaxInt} {
				list := puts(file, place, value)
				expectPutsValid(t, list, arePuts(list))
				expectPutsValid(t, append(puts(7, 5, 9999), list...), arePuts(list))
				expectPutsValid(t, append(list, puts(0, 0, 0)...), arePuts(list))
			}
		}
	}
}

func TestP85WithAWriteOfNoFileAheadTheyAreNotValid(t *testing.T) {
	for _, list := range putsInBounds() {
		expectPutsValid(t, append(puts(-1, 0, 0), list...), false)
		expectPutsValid(t, append(puts(-1, 2, 45), list...), false)
	}
}

// The first ones, the last ones, and those between are valid, too.
func TestP85PartsOfValidWritesAreValid(t *testing.T) {
	for _, list := range putsInBounds() {
		for from := 0; from <= len(list); from++ {
			for to := from; to <= len(list); to++ {
				expectPutsValid(t, list[from:to], true)
			}
		}
	}
}

// A wrong write does not matter to the parts without it.
func TestP85PartsWithoutTheWrongWriteAreValid(t *testing.T) {
	for _, w := range someWrongPuts() {
		for n := 0; n <= mostPuts; n++ {
			list := withPutMore(steppedPuts(mostPuts, 20, 1), n, w)
			expectPutsValid(t, list, false)
			expectPutsValid(t, list[:n], true)
			expectPutsValid(t, list[n+1:], true)
			expectPutsValid(t, list[n:], false)
			expectPutsValid(t, list[:n+1], false)
		}
	}
}

// P13: power cuts lose only what comes after.

func TestP13SomeWrites(t *testing.T) {
	list := puts(1, 0, 5, 1, 1, 6, 1, 0, 7, 2, 0, 8, 2, 0, 9)
	first := []impl.Page{written(1, 0, 5, 1), written(1, 1, 6, 2), written(1, 0, 7, 3), written(2, 0, 8, 4)}
	second := []impl.Page{written(2, 0, 9, 5), {}, {}, {}}
	expectRun(t, 1, list, []impl.Block{{Pages: first}}, 4)
	expectRun(t, 2, list, []impl.Block{{Pages: first}, {Pages: second}}, 5)
	expectRun(t, 2, list[:4], []impl.Block{{Pages: first}, {Pages: make([]impl.Page, 4)}}, 4)
	d, _ := impl.RunPuts(2, list)
	expectTableOf(t, d, tableOf(withTwoNumbers(withNumber(noPages(), 7, 1), 6, 2, 12, 4)))
	expectValues(t, d, impl.TableOf(d), 1, []int{7, 6}, true)
	expectValues(t, d, impl.TableOf(d), 2, []int{9}, true)
	d, _ = impl.RunPuts(1, list)
	expectValues(t, d, impl.TableOf(d), 2, []int{8}, true)
}

func TestP13WithoutWritesTheDeviceIsNew(t *testing.T) {
	for many := 1; many <= mostBlocks; many++ {
		for _, list := range [][]impl.Put{nil, {}, make([]impl.Put, 0, 30)} {
			expectRun(t, many, list, slices.Repeat([]impl.Block{blockWith(0, 0)}, many), 0)
			expectRun(t, many, list, impl.NewDevice(many), 0)
			expectOnlyLost(t, many, list)
		}
	}
}

// The first writes are the pages of the first block, the next ones those of the second block, and so on; no block was erased.
func TestP13PagesAreInTheOrderOfTheWrites(t *testing.T) {
	for many := 1; many <= mostBlocks; many++ {
		for size := 0; size <= mostPuts; size++ {
			d, count := impl.RunPuts(many, steppedPuts(size, 20, 29))
			if len(d) != many || count != min(size, 4*many) || allWear(d) != 0 {
				t.Errorf("RunPuts(%d, %d writes) = %+v, %d", many, size, d, count)
				continue
			}
			for at, p := range allPages(d) {
				n := (20 + 29*at) % allPlaces
				if at < count && p != written(n/placesOfFile, n%placesOfFile, (9980+at)%10000, at+1) || at >= count && p != (impl.Page{}) {
					t.Errorf("RunPuts(%d, %d writes) has %+v at %d", many, size, p, at)
				}
			}
		}
	}
}

func TestP13AllCountsOfBlocksAndWrites(t *testing.T) {
	for many := 1; many <= mostBlocks; many++ {
		for _, list := range putsInBounds() {
			expectWritten(t, many, list)
		}
	}
}

// One block has room for 4 writes, two for 8, four for 16, and five for all 20.
func TestP13WritesThatDoNotFit(t *testing.T) {
	cases := []struct{ many, size, count int }{
		{1, 4, 4}, {1, 5, 4}, {1, 8, 4}, {1, 20, 4}, {2, 7, 7}, {2, 8, 8}, {2, 9, 8}, {2, 20, 8},
		{3, 12, 12}, {3, 13, 12}, {3, 20, 12}, {4, 16, 16}, {4, 17, 16}, {4, 20, 16}, {5, 17, 17}, {5, 20, 20}, {12, 20, 20},
	}
	for _, c := range cases {
		for _, step := range stepsOfPuts() {
			list := steppedPuts(c.size, 20, step)
			d, count := impl.RunPuts(c.many, list)
			if count != c.count {
				t.Errorf("RunPuts(%d, %v): %d, not %d", c.many, list, count, c.count)
			}
			expectFree(t, d, 4*c.many-c.count)
			expectDeviceValid(t, d, true)
			expectLast(t, d, c.count)
			// What did not fit changes nothing: the device is that of the writes before.
			expectRun(t, c.many, list[:c.count], d, c.count)
		}
	}
}

// All writes that fit are to one place. Those that do not fit are to the same one, to another one of the file, or to another file: the value of the last one that fits stays.
func TestP13WhatDoesNotFitIsLost(t *testing.T) {
	for many := 1; many <= 4; many++ {
		for size := many*pagesOfBlock + 1; size <= mostPuts; size++ {
			fits := steppedPuts(many*pagesOfBlock, 20, 0)
			for _, n := range []int{20, 21, 26, allPlaces - 1} {
				list := append(slices.Clone(fits), slices.Repeat([]impl.Put{putAt(n, 77)}, size-len(fits))...)
				expectRun(t, many, list, deviceOfPuts(many, fits), len(fits))
				expectOnlyLost(t, many, list)
				d, _ := impl.RunPuts(many, list)
				expectValues(t, d, impl.TableOf(d), 3, []int{0, 0, 9980 + len(fits) - 1}, true)
			}
		}
	}
}

// The same file and place is written twice, in one block or in two: both pages are there, and the table names the later one.
func TestP13TheSamePlaceIsWrittenTwice(t *testing.T) {
	for n := 0; n < allPlaces; n++ {
		for between := 0; between <= 8; between++ {
			list := slices.Concat([]impl.Put{putAt(n, 300)}, steppedPuts(between, n+1, 1), []impl.Put{putAt(n, 200)})
			for _, many := range []int{1, 2, 3, mostBlocks} {
				expectOnlyLost(t, many, list)
				d, count := impl.RunPuts(many, list)
				at := 0
				if count == len(list) {
					at = between + 1
				}
				expectGet(t, impl.TableOf(d), n/placesOfFile, n%placesOfFile, at)
				expectRead(t, d, 0, written(n/placesOfFile, n%placesOfFile, 300, 1), true)
			}
		}
	}
}

// The last value counts, also if it is less than one before, 0, or the same.
func TestP13TheSamePlaceIsWrittenOften(t *testing.T) {
	for _, own := range everyPlace() {
		for _, values := range [][]int{{5, 0}, {0, 5}, {9999, 0, 9999, 0}, {0, 9999, 1}, {7, 7, 7}, {4, 3, 2, 1, 0}, {0, 0, 0, 0, 0, 1}} {
			var list []impl.Put
			for _, value := range values {
				list = append(list, puts(own.file, own.place, value)...)
			}
			for many := 1; many <= 2; many++ {
				expectCutAnywhere(t, many, list)
			}
			d, _ := impl.RunPuts(2, list)
			expectValues(t, d, impl.TableOf(d), own.file, append(make([]int, own.place), values[len(values)-1]), true)
		}
	}
}

func TestP13FilesPlacesAndValuesAtTheLimits(t *testing.T) {
	for _, w := range goodPuts() {
		for size := 1; size <= mostPuts; size++ {
			expectOnlyLost(t, 1, slices.Repeat([]impl.Put{w}, size))
			expectOnlyLost(t, 5, append(steppedPuts(size-1, 0, 1), w))
		}
	}
	for n := range goodPuts() {
		list := append(slices.Clone(goodPuts()[n:]), goodPuts()[:n]...)
		expectCutAnywhere(t, 5, list[:mostPuts])
	}
}

func TestP13PowerCutsAnywhere(t *testing.T) {
	for _, step := range stepsOfPuts() {
		for _, first := range []int{0, 20, allPlaces - 1} {
			list := steppedPuts(mostPuts, first, step)
			for _, many := range []int{1, 2, 4, 5, mostBlocks} {
				expectCutAnywhere(t, many, list)
			}
		}
	}
}

func TestP13ThePagesOfABeginningAreTheFirstOnes(t *testing.T) {
	for many := 1; many <= mostBlocks; many++ {
		for _, list := range somePutsInBounds() {
			expectBeginning(t, many, list)
		}
	}
	for _, list := range putsInBounds() {
		expectBeginning(t, 3, list)
	}
}

// All lists of up to five writes out of six, to one block and to two.
func TestP13AllShortLists(t *testing.T) {
	pool := puts(0, 0, 0, 0, 0, 7, 0, 1, 0, 1, 0, 9999, 7, 5, 3, 7, 5, 4)
	for size := 0; size <= 5; size++ {
		for _, numbers := range listsOf(numbersFromTo(0, len(pool)-1), size) {
			var list []impl.Put
			for _, n := range numbers {
				list = append(list, pool[n])
			}
			if size <= pagesOfBlock {
				expectOnlyLost(t, 2, list)
			} else {
				expectWritten(t, 1, list)
				expectWritten(t, 2, list)
			}
		}
	}
}

// A file has the last value of each place; places between that were not written have 0.
func TestP13FilesHaveTheirLastValues(t *testing.T) {
	for _, list := range somePutsInBounds() {
		for _, many := range []int{1, 2, 5, mostBlocks} {
			for cut := 0; cut <= len(list); cut++ {
				d, _ := impl.RunPuts(many, list[:cut])
				made := list[:roomFor(many, list[:cut])]
				for file := 0; file < filesOfTable; file++ {
					expectValues(t, d, impl.TableOf(d), file, valuesOfPuts(made, file), true)
				}
			}
		}
	}
}

// valuesOfPuts reckons the values of a file after some writes.
func valuesOfPuts(list []impl.Put, file int) []int {
	var values []int
	for _, w := range list {
		if w.File == file {
			values = append(values, make([]int, max(w.Place+1-len(values), 0))...)
			values[w.Place] = w.Value
		}
	}
	return values
}

// It is as if the pages were appended one by one for warm, from no heads on; and the first one that could not be written finds no room there either.
func TestP13WritesAreAppendedPages(t *testing.T) {
	for _, list := range append(putsInBounds(), somePutsInBounds()...) {
		for _, many := range []int{1, 2, 3, 4, 5, mostBlocks} {
			f := &fileSystem{impl.NewDevice(many), tableOf(noPages()), noHeads(), 0, noPages()}
			count := 0
			for _, w := range list {
				if !f.write(w.File*placesOfFile+w.Place, w.Value) {
					break
				}
				count++
			}
			expectRun(t, many, list, f.d, count)
			expectTableOf(t, f.d, f.x)
		}
	}
}

// When the power went after some writes, a table that was saved after fewer of them leads to that of the device.
func TestP13AfterAPowerCutTheDeviceCanBeMounted(t *testing.T) {
	for _, step := range stepsOfPuts() {
		list := steppedPuts(mostPuts, 20, step)
		for cut := 0; cut <= len(list); cut++ {
			d, _ := impl.RunPuts(5, list[:cut])
			for saved := 0; saved <= cut; saved++ {
				older, _ := impl.RunPuts(5, list[:saved])
				s := impl.SaveTable(impl.TableOf(older), saved)
				expectMount(t, d, [2]impl.Save{s}, saved, newestPages(d), true)
			}
		}
	}
}

func TestP13OtherNumbersOfBlocksHaveNoDevice(t *testing.T) {
	for _, many := range countsOfNoDevice() {
		for _, list := range putsInBounds() {
			expectNotRun(t, many, list)
		}
		for _, list := range somePutsOutOfBounds() {
			expectNotRun(t, many, list)
		}
	}
	for many := -300; many <= 300; many++ {
		if many < 1 || many > 12 {
			expectNotRun(t, many, nil)
			expectNotRun(t, many, puts(1, 0, 5))
		} else {
			expectRun(t, many, puts(1, 0, 5), deviceOfPuts(many, puts(1, 0, 5)), 1)
		}
	}
}

func TestP13OtherWritesAreNotMade(t *testing.T) {
	for _, list := range putsOutOfBounds() {
		for _, many := range []int{1, 5, mostBlocks} {
			expectNotRun(t, many, list)
		}
	}
	for many := 1; many <= mostBlocks; many++ {
		for _, list := range somePutsOutOfBounds() {
			expectNotRun(t, many, list)
		}
		// There would be room for them.
		expectNotRun(t, many, steppedPuts(mostPuts+1, 0, 1))
		expectNotRun(t, many, make([]impl.Put, many*pagesOfBlock+mostPuts))
	}
}

// The writes before the wrong one fill the device, or all but one page of it.
func TestP13AWrongWriteBehindThoseThatFit(t *testing.T) {
	for many := 1; many <= 4; many++ {
		for _, size := range []int{many*pagesOfBlock - 1, many * pagesOfBlock, many*pagesOfBlock + 1} {
			for _, w := range wrongPuts() {
				if size < mostPuts {
					expectNotRun(t, many, append(steppedPuts(size, 20, 1), w))
				}
				expectNotRun(t, many, withPut(steppedPuts(mostPuts, 20, 1), mostPuts-1, w))
			}
		}
	}
}

// P86: last writes count.

func TestP86SomeValues(t *testing.T) {
	list := puts(1, 0, 5, 1, 1, 6, 1, 0, 7, 2, 0, 8, 2, 0, 9)
	for _, c := range []struct{ file, place, value int }{
		{1, 0, 7}, {1, 1, 6}, {2, 0, 9}, {0, 0, -1}, {0, 1, -1}, {1, 2, -1}, {2, 1, -1}, {3, 0, -1}, {7, 5, -1}, {5, 7, -1},
	} {
		expectPutValue(t, list, fileAndPlace{c.file, c.place}, c.value)
	}
	for n, value := range []int{-1, 5, 5, 7, 7, 7} {
		expectPutValue(t, list[:n], fileAndPlace{1, 0}, value)
	}
	for n, value := range []int{-1, -1, -1, -1, 8, 9} {
		expectPutValue(t, list[:n], fileAndPlace{2, 0}, value)
	}
}

func TestP86WithoutWritesThereIsNoValue(t *testing.T) {
	for _, own := range append(everyPlace(), placesBeside()...) {
		expectPutValue(t, nil, own, -1)
		expectPutValue(t, []impl.Put{}, own, -1)
	}
}

func TestP86OneWrite(t *testing.T) {
	for _, own := range everyPlace() {
		for _, value := range []int{0, 1, 45, 9998, 9999} {
			list := puts(own.file, own.place, value)
			for _, other := range everyPlace() {
				if other == own {
					expectPutValue(t, list, other, value)
				} else {
					expectPutValue(t, list, other, -1)
				}
			}
		}
	}
}

func TestP86EveryValueCanBeWritten(t *testing.T) {
	for value := 0; value <= 9999; value++ {
		expectPutValue(t, puts(3, 2, value), fileAndPlace{3, 2}, value)
		expectPutValue(t, puts(3, 2, 9999-value, 3, 2, value), fileAndPlace{3, 2}, value)
	}
}

// The only write to the place is any one of them; before it and behind it are others, to the same file at another place and to the same place of another file.
func TestP86TheOnlyWriteStandsAnywhere(t *testing.T) {
	own := fileAndPlace{3, 2}
	others := puts(3, 1, 11, 3, 3, 12, 2, 2, 13, 4, 2, 14, 2, 3, 15)
	for size := 0; size < mostPuts; size++ {
		list := slices.Repeat(others, 4)[:size]
		expectPutValue(t, list, own, -1)
		for n := 0; n <= size; n++ {
			for _, value := range []int{0, 45, 9999} {
				expectPutValue(t, withPutMore(list, n, impl.Put{File: 3, Place: 2, Value: value}), own, value)
			}
		}
	}
}

// Two writes to the place stand anywhere among others: the later one counts, also if its value is less.
func TestP86OfTwoWritesTheLaterOneCounts(t *testing.T) {
	own := fileAndPlace{0, 5}
	others := steppedPuts(mostPuts, 6, 1)
	for first := 0; first < mostPuts; first++ {
		for second := first + 1; second < mostPuts; second++ {
			for _, values := range [][]int{{5, 6}, {6, 5}, {9999, 0}, {0, 9999}, {0, 0}, {5, 5}} {
				list := withPut(others, first, impl.Put{Place: 5, Value: values[0]})
				list = withPut(list, second, impl.Put{Place: 5, Value: values[1]})
				expectPutValue(t, list, own, values[1])
				expectPutValue(t, list[:second], own, values[0])
				expectPutValue(t, list[:first], own, -1)
				expectPutValue(t, list[first+1:], own, values[1])
				expectPutValue(t, list[second+1:], own, -1)
			}
		}
	}
}

// All writes are to the place, with values that ascend, descend, or are all the same.
func TestP86AllWritesAreToOnePlace(t *testing.T) {
	for _, own := range everyPlace() {
		var ascending, descending, same []impl.Put
		for k := 0; k < mostPuts; k++ {
			ascending = append(ascending, puts(own.file, own.place, k)...)
			descending = append(descending, puts(own.file, own.place, 9999-k)...)
			same = append(same, puts(own.file, own.place, 9)...)
			expectPutValue(t, ascending, own, k)
			expectPutValue(t, descending, own, 9999-k)
			expectPutValue(t, same, own, 9)
		}
	}
}

func TestP86EveryPlaceOfAllWrites(t *testing.T) {
	for _, list := range putsInBounds() {
		for _, own := range everyPlace() {
			expectPutValue(t, list, own, lastValue(list, own))
		}
	}
}

func TestP86WithAWriteMoreItIsItsValue(t *testing.T) {
	for _, list := range putsInBounds() {
		list = list[:min(len(list), mostPuts-1)]
		for k, own := range everyPlace() {
			for _, value := range []int{0, 45 + k, 9999} {
				more := withPutMore(list, len(list), impl.Put{File: own.file, Place: own.place, Value: value})
				expectPutValue(t, more, own, value)
			}
		}
	}
}

// The write is to the same file, to the same place of another file, or to neither.
func TestP86WithAWriteMoreToAnotherPlaceItStays(t *testing.T) {
	for _, list := range somePutsInBounds() {
		list = list[:min(len(list), mostPuts-1)]
		for _, other := range everyPlace() {
			more := withPutMore(list, len(list), impl.Put{File: other.file, Place: other.place, Value: 4321})
			for _, own := range everyPlace() {
				if own != other {
					expectPutValue(t, more, own, impl.PutValue(list, own.file, own.place))
				}
			}
		}
	}
}

// With one more than there can be no write has a value any more.
func TestP86TooManyWritesHaveNoValue(t *testing.T) {
	for _, step := range stepsOfPuts() {
		list := steppedPuts(mostPuts, 20, step)
		for _, own := range everyPlace() {
			expectPutValue(t, list, own, lastValue(list, own))
			expectPutValue(t, withPutMore(list, mostPuts, impl.Put{File: own.file, Place: own.place, Value: 5}), own, -1)
		}
	}
	for _, list := range tooManyPuts() {
		for _, n := range somePlaces() {
			expectPutValue(t, list, everyPlace()[n], -1)
		}
	}
}

// The place was written, before the wrong write or behind it; or the wrong write is to it.
func TestP86WrongWritesHaveNoValue(t *testing.T) {
	for _, list := range putsWithWrongOne() {
		for _, w := range []impl.Put{list[0], list[len(list)-1], {File: 3, Place: 2}} {
			expectPutValue(t, list, fileAndPlace{w.File, w.Place}, -1)
		}
	}
	for _, list := range somePutsOutOfBounds() {
		for _, own := range everyPlace() {
			expectPutValue(t, list, own, -1)
		}
		for _, w := range list {
			expectPutValue(t, list, fileAndPlace{w.File, w.Place}, -1)
		}
	}
}

func TestP86PlacesOutOfBoundsHaveNoValue(t *testing.T) {
	for _, list := range append(somePutsInBounds(), slices.Repeat(puts(0, 0, 5), mostPuts), puts(7, 5, 9999)) {
		for _, own := range placesBeside() {
			expectPutValue(t, list, own, -1)
		}
	}
	// Numbers that would be those of a place of another file do not count.
	expectPutValue(t, puts(1, 0, 5), fileAndPlace{0, 6}, -1)
	expectPutValue(t, puts(1, 0, 5), fileAndPlace{2, -6}, -1)
	expectPutValue(t, puts(7, 5, 5), fileAndPlace{8, -1}, -1)
	expectPutValue(t, puts(0, 5, 5), fileAndPlace{-1, 11}, -1)
	for _, list := range somePutsOutOfBounds() {
		for _, own := range []fileAndPlace{{-1, 0}, {8, 0}, {0, -1}, {0, 6}, {math.MinInt, 0}, {0, math.MaxInt}} {
			expectPutValue(t, list, own, -1)
		}
	}
}

// What is given and what is returned share no memory.

// putsWithRoom returns writes with room behind them, and the writes together with that room.
func putsWithRoom(list []impl.Put) ([]impl.Put, []impl.Put) {
	room := append(slices.Clone(list), puts(3, 2, 71, 0, 0, 72, -1, -1, -1)...)
	return room[:len(list)], room
}

// overwritePuts writes into all memory of some writes.
func overwritePuts(list []impl.Put) {
	all := list[:cap(list)]
	for n := range all {
		all[n] = impl.Put{File: -77, Place: -78, Value: -79}
	}
}

func putsInMemory() [][]impl.Put {
	return slices.Concat(putsInBounds(), somePutsOutOfBounds(), tooManyPuts())
}

// countsOfBlocks are numbers of blocks that a device has, and some that it has not.
func countsOfBlocks() []int {
	return []int{-1, 0, 1, 2, 5, mostBlocks, mostBlocks + 1}
}

func TestPutsGivenAreNotWrittenTo(t *testing.T) {
	for _, list := range putsInMemory() {
		given, room := putsWithRoom(list)
		before := slices.Clone(room)
		impl.PutsValid(given)
		for _, own := range []fileAndPlace{{0, 0}, {3, 2}, {7, 5}, {-1, -1}, {8, 6}} {
			impl.PutValue(given, own.file, own.place)
		}
		for _, many := range countsOfBlocks() {
			d, _ := impl.RunPuts(many, given)
			overwriteDevice(d)
		}
		if !slices.Equal(room, before) {
			t.Fatalf("%v was written into: %v", before[:len(list)], room)
		}
	}
}

// What is behind the writes in memory does not count.
func TestOnlyThePutsGivenCount(t *testing.T) {
	for _, list := range putsInMemory() {
		given, _ := putsWithRoom(list)
		expectPutsValid(t, given, arePuts(list))
		expectPutValue(t, given, fileAndPlace{3, 2}, impl.PutValue(slices.Clip(list), 3, 2))
		for _, many := range []int{1, 5, mostBlocks} {
			d, count := impl.RunPuts(many, slices.Clip(list))
			expectRun(t, many, given, d, count)
		}
	}
}

func TestDevicesOfPutsShareNoMemory(t *testing.T) {
	for _, list := range putsInMemory() {
		for _, many := range countsOfBlocks() {
			other, count := impl.RunPuts(many, list)
			before := cloneBlocks(other)
			again, _ := impl.RunPuts(many, list)
			overwriteDevice(again)
			if !sameDevice(other, before) {
				t.Fatalf("RunPuts(%d, %v) shares memory with another result", many, list)
			}
			expectRun(t, many, list, before, count)
		}
	}
}

func TestBlocksOfDevicesOfPutsShareNoMemory(t *testing.T) {
	for _, list := range putsInMemory() {
		for _, many := range countsOfBlocks() {
			d, _ := impl.RunPuts(many, list)
			expectBlocksApart(t, "RunPuts", d)
		}
	}
}

// What is written into the writes afterwards, or behind them, does not change the device.
func TestDevicesStayWhenThePutsAreWrittenTo(t *testing.T) {
	for _, list := range putsInMemory() {
		for _, many := range countsOfBlocks() {
			given, room := putsWithRoom(list)
			d, _ := impl.RunPuts(many, given)
			before := cloneBlocks(d)
			overwritePuts(room)
			if !sameDevice(d, before) {
				t.Fatalf("RunPuts(%d, %v) shares memory with them", many, list)
			}
		}
	}
}
