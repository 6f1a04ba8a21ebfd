package tests

import (
	"slices"
	"testing"

	"loop.example/flashfiles/impl"
)

// usedByLooking reckons the used pages of a table: it looks for every page whether it is there.
func usedByLooking(x impl.Table) []int {
	numbers := numbersOf(x)
	return slices.DeleteFunc(numbersFromTo(0, mostPages-1), func(at int) bool { return !slices.Contains(numbers, at) })
}

// countsByLooking reckons the counts of a device: it looks for every page whether it is written and in the table.
func countsByLooking(d []impl.Block, x impl.Table) []int {
	numbers := numbersOf(x)
	counts := make([]int, len(d))
	for at, p := range allPages(d) {
		if p.Full && slices.Contains(numbers, at) {
			counts[at/pagesOfBlock]++
		}
	}
	return counts
}

// oldByLooking reckons the old pages of a device: it looks for every page whether it is written and not in the table.
func oldByLooking(d []impl.Block, x impl.Table) int {
	numbers := numbersOf(x)
	old := 0
	for at, p := range allPages(d) {
		if p.Full && !slices.Contains(numbers, at) {
			old++
		}
	}
	return old
}

// tableWithPages returns a table that names some pages: the first one at a place of all places, and each other one so many places farther on, where the first place follows the last one.
func tableWithPages(pages []int, first int, step int) impl.Table {
	numbers := noPages()
	for n, at := range pages {
		numbers[(first+n*step)%allPlaces] = at
	}
	return tableOf(numbers)
}

// tablesWithPages are tables that name the same pages: in ascending order, in descending order, and mixed, from the first place on and across the last one.
func tablesWithPages(pages []int) []impl.Table {
	return []impl.Table{
		tableWithPages(pages, 0, 1),
		tableWithPages(pages, allPlaces-1, allPlaces-1),
		tableWithPages(pages, allPlaces-2, 1),
		tableWithPages(pages, 20, 29),
	}
}

// pagesFrom are so many pages, the first one of which is told.
func pagesFrom(first int, many int) []int {
	return numbersFromTo(first, first+many-1)
}

// pagesOfSet are those of so many pages, from the first one on, whose places among them a set has.
func pagesOfSet(first int, size int, set int) []int {
	return slices.DeleteFunc(pagesFrom(first, size), func(at int) bool { return !hasByHalving(set, at-first) })
}

// sameButOne are counts of so many blocks: all the same but that of the block n.
func sameButOne(size int, same int, n int, many int) []int {
	return withNumber(slices.Repeat([]int{same}, size), n, many)
}

// blocksOfSize are the first, a middle and the last one of so many blocks.
func blocksOfSize(size int) []int {
	return slices.Compact([]int{0, size / 2, size - 1})
}

// devicesToCount are devices of every size: with no page written, some or all, in the first, a middle and the last block alone, and in all others.
func devicesToCount() [][]impl.Block {
	devices := validDevices()
	for size := 1; size <= mostBlocks; size++ {
		for _, n := range blocksOfSize(size) {
			for many := 0; many <= pagesOfBlock; many++ {
				devices = append(devices, deviceOf(sameButOne(size, 0, n, many)), deviceOf(sameButOne(size, pagesOfBlock, n, many)))
			}
		}
	}
	return devices
}

// tablesToCount are valid tables that name all pages, some or none.
func tablesToCount() []impl.Table {
	tables := validTables()
	for _, pages := range [][]int{{0, mostPages - 1}, {3, 4}, {0, 1, 2, 3}, pagesFrom(0, 10), pagesFrom(mostPages-5, 5)} {
		tables = append(tables, tablesWithPages(pages)...)
	}
	return tables
}

func expectUsed(t *testing.T, x impl.Table, used []int) {
	t.Helper()
	if got := impl.UsedPages(x); !slices.Equal(got, used) {
		t.Errorf("UsedPages(%v) = %v, not %v", x, got, used)
	}
}

func expectCounts(t *testing.T, d []impl.Block, x impl.Table, counts []int) {
	t.Helper()
	if got := impl.BlockCounts(d, x); !slices.Equal(got, counts) {
		t.Errorf("BlockCounts(%+v, %v) = %v, not %v", d, x, got, counts)
	}
}

func expectOld(t *testing.T, d []impl.Block, x impl.Table, old int) {
	t.Helper()
	if got := impl.OldPages(d, x); got != old {
		t.Errorf("OldPages(%+v, %v) = %d, not %d", d, x, got, old)
	}
}

// expectCounted expects the counts and the old pages of a valid device and a valid table.
func expectCounted(t *testing.T, d []impl.Block, x impl.Table, counts []int, old int) {
	t.Helper()
	expectCounts(t, d, x, counts)
	expectOld(t, d, x, old)
}

// expectByLooking expects the counts and the old pages that are reckoned from the pages.
func expectByLooking(t *testing.T, d []impl.Block, x impl.Table) {
	t.Helper()
	expectCounted(t, d, x, countsByLooking(d, x), oldByLooking(d, x))
}

// P66: used pages are in the table.

func TestP66UsedPagesOfSomeTables(t *testing.T) {
	expectUsed(t, tableOf(noPages()), nil)
	expectUsed(t, impl.TableOf(twoFiles()), []int{0, 2, 4, 5, 6})
	expectUsed(t, withList(tableOf(noPages()), 3, []int{9, -1, 4, 0, 47, 10}), []int{0, 4, 9, 10, 47})
	first := withList(tableOf(noPages()), 0, []int{47, -1, -1, -1, -1, 1})
	expectUsed(t, first, []int{1, 47})
	expectUsed(t, withList(first, 7, []int{2, -1, -1, -1, -1, 0}), []int{0, 1, 2, 47})
}

func TestP66TablesWithoutPagesHaveNoUsedPages(t *testing.T) {
	expectUsed(t, tableOf(noPages()), nil)
	for many := 1; many <= mostBlocks; many++ {
		expectUsed(t, impl.TableOf(impl.NewDevice(many)), nil)
	}
	all := tableOf(ascendingPages())
	for file := 0; file < filesOfTable; file++ {
		all = impl.CutFile(all, file, 0)
	}
	expectUsed(t, all, nil)
}

func TestP66OfAFullTableAllPagesAreUsed(t *testing.T) {
	all := numbersFromTo(0, 47)
	descending := slices.Clone(all)
	slices.Reverse(descending)
	expectUsed(t, tableOf(all), all)
	expectUsed(t, tableOf(descending), all)
	for by := 1; by < mostPages; by++ {
		expectUsed(t, tableOf(shiftedPages(by)), all)
	}
	for _, x := range tablesWithPages(all) {
		expectUsed(t, x, all)
	}
}

func TestP66OnePageAloneIsUsed(t *testing.T) {
	for _, own := range []fileAndPlace{{0, 0}, {0, 5}, {7, 0}, {7, 5}} {
		for _, at := range []int{0, 1, 23, 46, 47} {
			expectUsed(t, tableOf(withNumber(noPages(), own.file*placesOfFile+own.place, at)), []int{at})
		}
	}
	for n := 0; n < allPlaces; n++ {
		for at := 0; at < mostPages; at++ {
			expectUsed(t, tableOf(withNumber(noPages(), n, at)), []int{at})
		}
	}
}

func TestP66OnePageAloneIsNotUsed(t *testing.T) {
	for n := 0; n < allPlaces; n++ {
		for _, by := range []int{0, 1, 29, 47} {
			at := (n + by) % mostPages
			used := slices.DeleteFunc(ascendingPages(), func(other int) bool { return other == at })
			expectUsed(t, tableOf(withNumber(shiftedPages(by), n, -1)), used)
		}
	}
}

// Two pages at all pairs of places: the greater one stands before the other, or behind it.
func TestP66TheOrderOfPlacesDoesNotMatter(t *testing.T) {
	for first := 0; first < allPlaces; first++ {
		for second := 0; second < allPlaces; second++ {
			if first == second {
				continue
			}
			for _, pages := range [][]int{{0, 47}, {7, 8}, {3, 30}} {
				expectUsed(t, tableOf(withNumber(withNumber(noPages(), first, pages[0]), second, pages[1])), pages)
			}
		}
	}
}

// expectUsedOnce expects what the document says about a valid table, and what promise 66 does.
func expectUsedOnce(t *testing.T, x impl.Table) {
	t.Helper()
	expectUsed(t, x, usedByLooking(x))
	used := impl.UsedPages(x)
	places := 0
	for file := 0; file < filesOfTable; file++ {
		for place := 0; place < placesOfFile; place++ {
			at := impl.TableGet(x, file, place)
			if at == -1 {
				continue
			}
			places++
			if !slices.Contains(used, at) {
				t.Errorf("UsedPages(%v) = %v: without page %d", x, used, at)
			}
		}
	}
	if len(used) != places {
		t.Errorf("UsedPages(%v) = %v: there are %d places with a page", x, used, places)
	}
	for n := 1; n < len(used); n++ {
		if used[n-1] >= used[n] {
			t.Errorf("UsedPages(%v) = %v: does not ascend", x, used)
		}
	}
}

func TestP66UsedPagesAreInTheTable(t *testing.T) {
	for _, x := range tablesToCount() {
		expectUsedOnce(t, x)
	}
	for _, f := range filesOfSets() {
		expectUsedOnce(t, f.table)
	}
	for many := 0; many <= mostPages; many++ {
		for _, first := range []int{0, (mostPages - many) / 2, mostPages - many} {
			for _, x := range tablesWithPages(pagesFrom(first, many)) {
				expectUsedOnce(t, x)
			}
		}
	}
}

func TestP66UsedPagesOfTablesOfDevices(t *testing.T) {
	for _, d := range append(devicesToCount(), smallDevices()...) {
		expectUsedOnce(t, impl.TableOf(d))
	}
}

func TestP66APutPageIsUsed(t *testing.T) {
	x := tableOf(noPages())
	for n, at := range shiftedPages(29) {
		x, _ = impl.TablePut(x, n/placesOfFile, n%placesOfFile, at)
		expectUsedOnce(t, x)
		if !slices.Contains(impl.UsedPages(x), at) {
			t.Errorf("UsedPages(%v) = %v: without page %d", x, impl.UsedPages(x), at)
		}
	}
}

func TestP66OtherTablesHaveNoUsedPages(t *testing.T) {
	expectUsed(t, impl.Table{}, nil)
	for _, x := range invalidTables() {
		expectUsed(t, x, nil)
	}
	expectUsed(t, withList(tableOf(noPages()), 4, []int{5, -1, 5, -1, -1, -1}), nil)
	for at := 0; at < mostPages; at++ {
		expectUsed(t, tableWithTwice(at, 0, 5), nil)
		expectUsed(t, tableWithTwice(at, 0, allPlaces-1), nil)
	}
}

// P67: counts are of written pages.

func TestP67CountsOfSomeDevices(t *testing.T) {
	d := twoFiles()
	expectCounts(t, d, tableOf(noPages()), []int{0, 0})
	expectCounts(t, d, impl.TableOf(d), []int{2, 3})
	expectCounts(t, d, impl.CutFile(impl.TableOf(d), 3, 0), []int{1, 2})
	expectCounts(t, d, twoFilesWith([]int{2, -1, 1, -1, -1, -1}), []int{2, 0})
	expectCounts(t, d, twoFilesWith([]int{6, 5, 4, 2, 1, 0}), []int{3, 3})
	// The page 3 and the page 7 are not written, and a device of two blocks has no page 8.
	expectCounts(t, d, twoFilesWith([]int{2, 3, 7, 8, 47, 6}), []int{1, 1})
	expectCounts(t, d, twoFilesWith([]int{3, 7, 8, 9, 46, 47}), []int{0, 0})
	expectCounts(t, deviceOf([]int{4, 0, 1, 0}), twoFilesWith([]int{8, 3, 0, 2, -1, -1}), []int{3, 0, 1, 0})
}

func TestP67WithoutPagesInTheTableAllCountsAreZero(t *testing.T) {
	for _, d := range devicesToCount() {
		expectCounts(t, d, tableOf(noPages()), make([]int, len(d)))
	}
}

func TestP67WithoutWrittenPagesAllCountsAreZero(t *testing.T) {
	for size := 1; size <= mostBlocks; size++ {
		for _, x := range tablesToCount() {
			expectCounts(t, impl.NewDevice(size), x, make([]int, size))
			expectCounts(t, deviceOf(make([]int, size)), x, make([]int, size))
		}
	}
}

func TestP67WithAllPagesInTheTableAllWrittenOnesCount(t *testing.T) {
	for _, d := range devicesToCount() {
		var counts []int
		for _, b := range d {
			counts = append(counts, countFull(b.Pages))
		}
		for _, x := range tablesWithPages(ascendingPages()) {
			expectCounts(t, d, x, counts)
		}
	}
}

// In one block after the other, from 0 to all of its pages are named: alone, and beside all pages of the other blocks.
func TestP67CountsOfBlocks(t *testing.T) {
	for size := 1; size <= mostBlocks; size++ {
		full := deviceOf(slices.Repeat([]int{pagesOfBlock}, size))
		for n := 0; n < size; n++ {
			for many := 0; many <= pagesOfBlock; many++ {
				own := pagesFrom(n*pagesOfBlock, many)
				others := slices.Concat(pagesFrom(0, n*pagesOfBlock), own, numbersFromTo((n+1)*pagesOfBlock, mostPages-1))
				for _, x := range tablesWithPages(own) {
					expectCounts(t, full, x, sameButOne(size, 0, n, many))
				}
				for _, x := range tablesWithPages(others) {
					expectCounts(t, full, x, sameButOne(size, pagesOfBlock, n, many))
				}
			}
		}
	}
}

func TestP67OnePageAloneIsCounted(t *testing.T) {
	for _, size := range []int{1, 2, mostBlocks} {
		full := deviceOf(slices.Repeat([]int{pagesOfBlock}, size))
		for n := 0; n < allPlaces; n++ {
			for at := 0; at < mostPages; at++ {
				counts := make([]int, size)
				if at < size*pagesOfBlock {
					counts[at/pagesOfBlock] = 1
				}
				expectCounts(t, full, tableOf(withNumber(noPages(), n, at)), counts)
			}
		}
	}
}

// Only the first pages of a block are written: the others are named all the same.
func TestP67PagesThatAreNotWrittenDoNotCount(t *testing.T) {
	for size := 1; size <= mostBlocks; size++ {
		for n := 0; n < size; n++ {
			for many := 0; many <= pagesOfBlock; many++ {
				d := deviceOf(sameButOne(size, 0, n, many))
				free := numbersFromTo(n*pagesOfBlock+many, (n+1)*pagesOfBlock-1)
				own := pagesFrom(n*pagesOfBlock, pagesOfBlock)
				for _, x := range tablesWithPages(free) {
					expectCounts(t, d, x, make([]int, size))
				}
				for _, x := range tablesWithPages(own) {
					expectCounts(t, d, x, sameButOne(size, 0, n, many))
				}
			}
		}
	}
}

func TestP67PagesOfOtherDevicesDoNotCount(t *testing.T) {
	for size := 1; size < mostBlocks; size++ {
		full := deviceOf(slices.Repeat([]int{pagesOfBlock}, size))
		for at := size * pagesOfBlock; at < mostPages; at++ {
			for _, x := range tablesWithPages(numbersFromTo(at, mostPages-1)) {
				expectCounts(t, full, x, make([]int, size))
			}
			for _, x := range tablesWithPages([]int{0, at}) {
				expectCounts(t, full, x, sameButOne(size, 0, 0, 1))
			}
		}
	}
}

// Every page of the device has the file 3 and the place 2: it counts at whatever place the table names it.
func TestP67PagesOfOtherFilesAndPlacesCount(t *testing.T) {
	d := splitDevice(slices.Repeat([]impl.Page{written(3, 2, 45, 67)}, mostPages), slices.Repeat([]int{pagesOfBlock}, mostBlocks))
	for n := 0; n < allPlaces; n++ {
		for at := 0; at < mostPages; at++ {
			expectCounts(t, d, tableOf(withNumber(noPages(), n, at)), sameButOne(mostBlocks, 0, at/pagesOfBlock, 1))
		}
	}
	for _, x := range tablesWithPages(ascendingPages()) {
		expectCounts(t, d, x, slices.Repeat([]int{pagesOfBlock}, mostBlocks))
	}
}

func TestP67EveryWrittenPageCounts(t *testing.T) {
	for _, p := range validPages() {
		if !p.Full {
			continue
		}
		for _, size := range []int{1, 2, mostBlocks} {
			d := withBlock(deviceOf(make([]int, size)), size-1, withPage(blockWith(5, 0), 0, p))
			at := (size - 1) * pagesOfBlock
			expectCounted(t, d, tableOf(withNumber(noPages(), 8, at)), sameButOne(size, 0, size-1, 1), 0)
			expectCounted(t, d, tableOf(noPages()), make([]int, size), 1)
		}
	}
}

// expectCountsInBounds expects what promise 67 says.
func expectCountsInBounds(t *testing.T, d []impl.Block, x impl.Table) {
	t.Helper()
	counts := impl.BlockCounts(d, x)
	if len(counts) != len(d) {
		t.Fatalf("BlockCounts(%+v, %v) = %v", d, x, counts)
	}
	for n, count := range counts {
		if count < 0 || count > pagesOfBlock || count > countFull(d[n].Pages) {
			t.Errorf("BlockCounts(%+v, %v) = %v: wrong for the block %d", d, x, counts, n)
		}
	}
}

func TestP67CountsOfAllDevicesAndTables(t *testing.T) {
	for _, d := range devicesToCount() {
		for _, x := range append(tablesToCount(), impl.TableOf(d)) {
			expectCounts(t, d, x, countsByLooking(d, x))
			expectCountsInBounds(t, d, x)
		}
	}
}

// All sets of the pages of two blocks, at all numbers of written pages.
func TestP67CountsOfAllPagesOfTwoBlocks(t *testing.T) {
	for _, counts := range listsOf(numbersFromTo(0, pagesOfBlock), 2) {
		d := deviceOf(counts)
		for set := 0; set < 256; set++ {
			for _, x := range tablesWithPages(pagesOfSet(0, 2*pagesOfBlock, set)) {
				expectByLooking(t, d, x)
			}
		}
	}
}

// All sets of the pages of every block of the largest device, at all numbers of written pages of it.
func TestP67CountsOfAllPagesOfEveryBlock(t *testing.T) {
	for n := 0; n < mostBlocks; n++ {
		for many := 0; many <= pagesOfBlock; many++ {
			d := deviceOf(sameButOne(mostBlocks, 3, n, many))
			for set := 0; set < 16; set++ {
				for _, x := range tablesWithPages(pagesOfSet(n*pagesOfBlock, pagesOfBlock, set)) {
					expectByLooking(t, d, x)
				}
			}
		}
	}
}

func TestP67OtherTablesHaveNoCounts(t *testing.T) {
	for _, d := range [][]impl.Block{impl.NewDevice(1), twoFiles(), deviceForNumbers(ascendingPages())} {
		for _, x := range invalidTables() {
			expectCounts(t, d, x, nil)
		}
	}
}

func TestP67OtherDevicesHaveNoCounts(t *testing.T) {
	for _, d := range invalidDevices() {
		for _, x := range someTables() {
			expectCounts(t, d, x, nil)
		}
		expectCounts(t, d, impl.Table{}, nil)
		expectCounts(t, d, tableWithTwice(0, 0, 1), nil)
	}
}

// P68: pages are used, old or free.

func TestP68OldPagesOfSomeDevices(t *testing.T) {
	d := twoFiles()
	// The page 1 is of the place 2 of file 3, as the newer page 5.
	expectOld(t, d, impl.TableOf(d), 1)
	expectOld(t, d, impl.CutFile(impl.TableOf(d), 3, 0), 3)
	expectOld(t, d, tableOf(noPages()), 6)
	expectOld(t, d, twoFilesWith([]int{6, 5, 4, 2, 1, 0}), 0)
	expectOld(t, d, twoFilesWith([]int{2, 3, 7, 8, 47, 6}), 4)
	expectOld(t, d, twoFilesWith([]int{3, 7, 8, 9, 46, 47}), 6)
	expectOld(t, impl.NewDevice(1), tableOf(noPages()), 0)
}

func TestP68WithoutPagesInTheTableAllWrittenPagesAreOld(t *testing.T) {
	for _, d := range devicesToCount() {
		expectOld(t, d, tableOf(noPages()), countFull(allPages(d)))
	}
}

func TestP68WithAllPagesInTheTableNoPageIsOld(t *testing.T) {
	for _, d := range devicesToCount() {
		for _, x := range tablesWithPages(ascendingPages()) {
			expectOld(t, d, x, 0)
		}
	}
}

func TestP68EmptyDevicesHaveNoOldPages(t *testing.T) {
	for size := 1; size <= mostBlocks; size++ {
		for _, x := range tablesToCount() {
			expectCounted(t, impl.NewDevice(size), x, make([]int, size), 0)
		}
	}
}

func TestP68APageThatNoTableNamesIsOld(t *testing.T) {
	for _, size := range []int{1, 2, mostBlocks} {
		full := deviceOf(slices.Repeat([]int{pagesOfBlock}, size))
		for at := 0; at < size*pagesOfBlock; at++ {
			counts := sameButOne(size, pagesOfBlock, at/pagesOfBlock, pagesOfBlock-1)
			expectCounted(t, full, tableOf(withNumber(ascendingPages(), at, -1)), counts, 1)
		}
	}
}

// The same place is written again and again: only the last page is used.
func TestP68OlderPagesOfAPlaceAreOld(t *testing.T) {
	for size := 1; size <= mostBlocks; size++ {
		d := impl.NewDevice(size)
		for n := 0; n < size*pagesOfBlock; n++ {
			d, _ = impl.Program(d, n/pagesOfBlock, written(3, 2, 45, 1+n))
			expectCounted(t, d, impl.TableOf(d), sameButOne(size, 0, n/pagesOfBlock, 1), n)
		}
	}
}

func TestP68PagesOfCutFilesAreOld(t *testing.T) {
	for _, numbers := range [][]int{ascendingPages(), shiftedPages(29)} {
		d := deviceForNumbers(numbers)
		for file := 0; file < filesOfTable; file++ {
			for place := 0; place <= placesOfFile; place++ {
				x := impl.CutFile(impl.TableOf(d), file, place)
				expectOld(t, d, x, placesOfFile-place)
				expectByLooking(t, d, x)
			}
		}
	}
}

func TestP68AnErasedBlockHasNoOldPages(t *testing.T) {
	for _, d := range devicesToCount() {
		x := tableOf(everySecond(ascendingPages(), 0))
		for n, b := range d {
			after, done := impl.EraseAt(d, n)
			if !done {
				continue
			}
			used := countsByLooking(d, x)[n]
			expectOld(t, after, x, oldByLooking(d, x)-countFull(b.Pages)+used)
			expectByLooking(t, after, x)
		}
	}
}

// expectAllPages expects what promise 68 says.
func expectAllPages(t *testing.T, d []impl.Block, x impl.Table) {
	t.Helper()
	used := 0
	for _, count := range impl.BlockCounts(d, x) {
		used += count
	}
	old := impl.OldPages(d, x)
	free := impl.FreePages(d)
	if used+old+free != len(d)*pagesOfBlock {
		t.Errorf("%+v has %d used pages by %v, %d old and %d free ones", d, used, x, old, free)
	}
}

func TestP68PagesAreUsedOldOrFree(t *testing.T) {
	for _, d := range devicesToCount() {
		for _, x := range append(tablesToCount(), impl.TableOf(d)) {
			expectOld(t, d, x, oldByLooking(d, x))
			expectAllPages(t, d, x)
		}
	}
}

func TestP68PagesOfSmallDevices(t *testing.T) {
	for _, d := range smallDevices() {
		for _, x := range append(someTables(), impl.TableOf(d)) {
			expectByLooking(t, d, x)
			expectAllPages(t, d, x)
		}
	}
}

func TestP68OtherTablesHaveNoNumberOfOldPages(t *testing.T) {
	for _, d := range [][]impl.Block{impl.NewDevice(1), twoFiles(), deviceForNumbers(ascendingPages())} {
		for _, x := range invalidTables() {
			expectOld(t, d, x, -1)
		}
	}
}

func TestP68OtherDevicesHaveNoNumberOfOldPages(t *testing.T) {
	for _, d := range invalidDevices() {
		for _, x := range someTables() {
			expectOld(t, d, x, -1)
		}
		expectOld(t, d, impl.Table{}, -1)
		expectOld(t, d, tableWithTwice(0, 0, 1), -1)
	}
}

// What is given and what is returned share no memory.

// countDevices are devices for the tests on memory: valid ones, one without blocks, and one with a block that is not valid.
func countDevices() [][]impl.Block {
	return [][]impl.Block{nil, impl.NewDevice(1), twoFiles(), deviceForNumbers(shiftedPages(29)), {blockWith(5, 2), {Wear: 5}}}
}

// countListCalls are calls that return pages of a table, and counts of devices.
func countListCalls() []fileListCall {
	calls := []fileListCall{{"UsedPages", func(x impl.Table) []int { return impl.UsedPages(x) }}}
	for _, d := range countDevices() {
		calls = append(calls, fileListCall{"BlockCounts", func(x impl.Table) []int { return impl.BlockCounts(d, x) }})
	}
	return calls
}

// countCalls are all calls of the chapter that take a table.
func countCalls() []tableCall {
	var calls []tableCall
	for _, c := range countListCalls() {
		calls = append(calls, tableCall{c.name, func(x impl.Table) impl.Table { c.call(x); return impl.Table{} }})
	}
	for _, d := range countDevices() {
		calls = append(calls, tableCall{"OldPages", func(x impl.Table) impl.Table { impl.OldPages(d, x); return impl.Table{} }})
	}
	return calls
}

func TestTablesGivenForCountsAreNotWrittenTo(t *testing.T) {
	for _, c := range countCalls() {
		for _, x := range append(tablesInMemory(), tablesToCount()...) {
			expectTableNotWritten(t, c, x)
		}
	}
}

func TestListsOfCountsShareNoMemory(t *testing.T) {
	for _, c := range countListCalls() {
		for _, x := range append(tablesInMemory(), tablesToCount()...) {
			expectNewList(t, c, x)
		}
	}
}

func TestDevicesGivenForCountsAreNotWrittenTo(t *testing.T) {
	for _, d := range devicesInMemory() {
		for _, x := range append(someTables(), impl.Table{}, impl.TableOf(d)) {
			expectGivenNotWritten(t, deviceCall{"BlockCounts", func(d []impl.Block) []impl.Block { impl.BlockCounts(d, x); return nil }}, d)
			expectGivenNotWritten(t, deviceCall{"OldPages", func(d []impl.Block) []impl.Block { impl.OldPages(d, x); return nil }}, d)
		}
	}
}

func TestCountsOfTheSameDeviceShareNoMemory(t *testing.T) {
	for _, d := range devicesInMemory() {
		for _, x := range append(someTables(), impl.TableOf(d)) {
			other := impl.BlockCounts(d, x)
			before := slices.Clone(other)
			overwriteLists([][]int{impl.BlockCounts(d, x)})
			if !slices.Equal(other, before) || !slices.Equal(impl.BlockCounts(d, x), before) {
				t.Fatalf("BlockCounts(%+v, %v) shares memory with another result", d, x)
			}
		}
	}
}

// A device may be given whose blocks share their pages: each page has a number of its own all the same.
func TestBlocksGivenForCountsMayShareMemory(t *testing.T) {
	for size := 1; size <= mostBlocks; size++ {
		for many := 0; many <= pagesOfBlock; many++ {
			shared := slices.Repeat([]impl.Block{blockWith(5, many)}, size)
			for _, x := range tablesToCount() {
				expectByLooking(t, shared, x)
				expectAllPages(t, shared, x)
			}
		}
	}
}

// A table may be given whose lists share their numbers, if all are -1.
func TestListsGivenForCountsMayShareMemory(t *testing.T) {
	shared := impl.Table{At: slices.Repeat([][]int{slices.Repeat([]int{-1}, placesOfFile)}, filesOfTable)}
	expectUsed(t, shared, nil)
	for _, d := range devicesToCount() {
		expectCounted(t, d, shared, make([]int, len(d)), countFull(allPages(d)))
	}
}
