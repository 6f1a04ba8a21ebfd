package tests

import (
	"math"
	"slices"
	"testing"

	"loop.example/flashfiles/impl"
)

// fileOfSet is a table in which a file has its pages exactly at the places that a set has.
type fileOfSet struct {
	table impl.Table
	file  int
	set   int
}

// withPlaces returns a table in which a file has no page but at the places that a set has.
func withPlaces(x impl.Table, file int, set int) impl.Table {
	list := slices.Clone(x.At[file])
	for place := range list {
		if !hasByHalving(set, place) {
			list[place] = -1
		}
	}
	return withList(x, file, list)
}

// filesWithAllPlaces are tables in which a file has a page at every place: the other files, too, or none of them.
func filesWithAllPlaces(file int) []impl.Table {
	all := tableOf(ascendingPages())
	return []impl.Table{all, tableOf(shiftedPages(29)), withList(tableOf(noPages()), file, all.At[file])}
}

// filesOfSets are all files with every set of places.
func filesOfSets() []fileOfSet {
	var files []fileOfSet
	for file := 0; file < filesOfTable; file++ {
		for _, x := range filesWithAllPlaces(file) {
			for set := 0; set < 64; set++ {
				files = append(files, fileOfSet{withPlaces(x, file, set), file, set})
			}
		}
	}
	return files
}

// sizeOfSet reckons the size of a file with the places of a set: it looks for the greatest one.
func sizeOfSet(set int) int {
	size := placesOfFile
	for size > 0 && !hasByHalving(set, size-1) {
		size--
	}
	return size
}

// holesOfSet reckons the holes of a file with the places of a set.
func holesOfSet(set int) []int {
	return slices.DeleteFunc(numbersFromTo(0, sizeOfSet(set)-1), func(place int) bool { return hasByHalving(set, place) })
}

// setOfList returns the places of a list that have a page.
func setOfList(list []int) int {
	set := 0
	for place, at := range list {
		if at != -1 {
			set += 1 << place
		}
	}
	return set
}

func expectSize(t *testing.T, x impl.Table, file int, size int) {
	t.Helper()
	if got := impl.FileSize(x, file); got != size {
		t.Errorf("FileSize(%v, %d) = %d, not %d", x, file, got, size)
	}
}

func expectHoles(t *testing.T, x impl.Table, file int, holes []int) {
	t.Helper()
	if got := impl.FileHoles(x, file); !slices.Equal(got, holes) {
		t.Errorf("FileHoles(%v, %d) = %v, not %v", x, file, got, holes)
	}
}

func expectCut(t *testing.T, x impl.Table, file int, place int, after impl.Table) {
	t.Helper()
	if got := impl.CutFile(x, file, place); !sameTable(got, after) {
		t.Errorf("CutFile(%v, %d, %d) = %v, not %v", x, file, place, got, after)
	}
}

func expectValues(t *testing.T, d []impl.Block, x impl.Table, file int, values []int, done bool) {
	t.Helper()
	if got, gotDone := impl.FileValues(d, x, file); gotDone != done || !slices.Equal(got, values) {
		t.Errorf("FileValues(%+v, %v, %d) = %v, %t, not %v, %t", d, x, file, got, gotDone, values, done)
	}
}

// expectNoValues expects what there is for wrong pages, and for arguments that are not valid.
func expectNoValues(t *testing.T, d []impl.Block, x impl.Table, file int) {
	t.Helper()
	expectValues(t, d, x, file, nil, false)
}

// P52: sizes end with a page.

func TestP52SizesOfSomeFiles(t *testing.T) {
	expectSize(t, tableOf(noPages()), 0, 0)
	expectSize(t, tableOf(noPages()), 7, 0)
	all := tableOf(ascendingPages())
	expectSize(t, all, 0, 6)
	expectSize(t, all, 7, 6)
	expectSize(t, withList(all, 4, []int{-1, -1, -1, -1, -1, -1}), 4, 0)
	expectSize(t, withList(all, 4, []int{-1, -1, -1, -1, -1, 24}), 4, 6)
	expectSize(t, withList(all, 4, []int{24, -1, 25, -1, -1, -1}), 4, 3)
	// The page 0 is a page, too.
	expectSize(t, tableOf(withNumber(noPages(), 0, 0)), 0, 1)
	expectSize(t, tableOf(withNumber(noPages(), 8, 0)), 1, 3)
	expectSize(t, tableOf(withNumber(noPages(), 8, 0)), 2, 0)
}

// expectSizeOfSet expects what the document says about the size of a file, and what promise 52 does.
func expectSizeOfSet(t *testing.T, f fileOfSet) {
	t.Helper()
	expectSize(t, f.table, f.file, sizeOfSet(f.set))
	size := impl.FileSize(f.table, f.file)
	if size > 0 && impl.TableGet(f.table, f.file, size-1) == -1 {
		t.Errorf("FileSize(%v, %d) = %d: no page is before it", f.table, f.file, size)
	}
	for place := max(size, 0); place < placesOfFile; place++ {
		expectGet(t, f.table, f.file, place, -1)
	}
}

func TestP52SizesEndWithAPage(t *testing.T) {
	for _, f := range filesOfSets() {
		expectSizeOfSet(t, f)
	}
}

func TestP52SizesOfAllTables(t *testing.T) {
	for _, x := range validTables() {
		for file, list := range x.At {
			expectSizeOfSet(t, fileOfSet{x, file, setOfList(list)})
		}
	}
}

func TestP52FilesOutOfBoundsHaveNoSize(t *testing.T) {
	for _, x := range validTables() {
		for _, file := range filesOutOfBounds() {
			expectSize(t, x, file, -1)
		}
	}
}

func TestP52OtherTablesHaveNoSizes(t *testing.T) {
	for _, x := range invalidTables() {
		for file := -1; file <= filesOfTable; file++ {
			expectSize(t, x, file, -1)
		}
	}
}

// P53: holes have no pages.

func TestP53HolesOfSomeFiles(t *testing.T) {
	expectHoles(t, tableOf(noPages()), 0, nil)
	expectHoles(t, tableOf(noPages()), 7, nil)
	all := tableOf(ascendingPages())
	expectHoles(t, all, 0, nil)
	expectHoles(t, all, 7, nil)
	expectHoles(t, withList(all, 4, []int{-1, -1, -1, -1, -1, 24}), 4, []int{0, 1, 2, 3, 4})
	expectHoles(t, withList(all, 4, []int{24, -1, 25, -1, -1, -1}), 4, []int{1})
	expectHoles(t, withList(all, 4, []int{24, -1, 25, -1, -1, -1}), 3, nil)
	expectHoles(t, withList(all, 4, []int{24, -1, -1, 25, -1, 26}), 4, []int{1, 2, 4})
	// The page 0 is no hole.
	expectHoles(t, tableOf(withNumber(noPages(), 8, 0)), 1, []int{0, 1})
	expectHoles(t, tableOf(withNumber(noPages(), 0, 0)), 0, nil)
}

// expectHolesOfSet expects what the document says about the holes of a file, and what promise 53 does.
func expectHolesOfSet(t *testing.T, f fileOfSet) {
	t.Helper()
	expectHoles(t, f.table, f.file, holesOfSet(f.set))
	holes := impl.FileHoles(f.table, f.file)
	for place := 0; place < impl.FileSize(f.table, f.file); place++ {
		hasPage := impl.TableGet(f.table, f.file, place) != -1
		if hasPage == slices.Contains(holes, place) {
			t.Errorf("FileHoles(%v, %d) = %v: wrong for the place %d", f.table, f.file, holes, place)
		}
	}
}

func TestP53HolesHaveNoPages(t *testing.T) {
	for _, f := range filesOfSets() {
		expectHolesOfSet(t, f)
	}
}

func TestP53HolesOfAllTables(t *testing.T) {
	for _, x := range validTables() {
		for file, list := range x.At {
			expectHolesOfSet(t, fileOfSet{x, file, setOfList(list)})
		}
	}
}

func TestP53FilesOutOfBoundsHaveNoHoles(t *testing.T) {
	for _, x := range validTables() {
		for _, file := range filesOutOfBounds() {
			expectHoles(t, x, file, nil)
		}
	}
}

func TestP53OtherTablesHaveNoHoles(t *testing.T) {
	for _, x := range invalidTables() {
		for file := -1; file <= filesOfTable; file++ {
			expectHoles(t, x, file, nil)
		}
	}
}

// P54: cut files are short.

// endsOutOfBounds are numbers at which no file can be cut.
func endsOutOfBounds() []int {
	return []int{-1, -2, -placesOfFile, placesOfFile + 1, placesOfFile + 2, allPlaces, math.MinInt, math.MaxInt}
}

func TestP54CutsOfSomeFiles(t *testing.T) {
	all := tableOf(ascendingPages())
	expectCut(t, all, 0, 0, withList(all, 0, []int{-1, -1, -1, -1, -1, -1}))
	expectCut(t, all, 0, 1, withList(all, 0, []int{0, -1, -1, -1, -1, -1}))
	expectCut(t, all, 7, 4, withList(all, 7, []int{42, 43, 44, 45, -1, -1}))
	expectCut(t, all, 7, 5, withList(all, 7, []int{42, 43, 44, 45, 46, -1}))
	expectCut(t, all, 7, 6, all)
	for place := 0; place <= placesOfFile; place++ {
		expectCut(t, tableOf(noPages()), 3, place, tableOf(noPages()))
	}
}

func TestP54AtTheSizeNothingChanges(t *testing.T) {
	for _, f := range filesOfSets() {
		for place := sizeOfSet(f.set); place <= placesOfFile; place++ {
			expectCut(t, f.table, f.file, place, f.table)
			expectChanges(t, impl.CutFile(f.table, f.file, place), f.table, 0)
		}
	}
}

// The places 1, 3 and 4 are holes: cut right behind them, the file ends before them.
func TestP54BeforeTheEndHolesAreNoPlaces(t *testing.T) {
	x := withList(tableOf(ascendingPages()), 4, []int{24, -1, 25, -1, -1, 26})
	for place, size := range []int{0, 1, 1, 3, 3, 3, 6} {
		expectSize(t, impl.CutFile(x, 4, place), 4, size)
		expectSize(t, impl.CutFile(x, 4, place), 3, 6)
		expectSize(t, impl.CutFile(x, 4, place), 5, 6)
	}
	expectHoles(t, impl.CutFile(x, 4, 5), 4, []int{1})
	expectHoles(t, impl.CutFile(x, 4, 2), 4, nil)
	onlyLast := withList(x, 4, []int{-1, -1, -1, -1, -1, 26})
	expectSize(t, impl.CutFile(onlyLast, 4, 5), 4, 0)
	expectHoles(t, impl.CutFile(onlyLast, 4, 5), 4, nil)
}

// expectCutShort expects what the document says about a cut, and what promises 49 and 54 do.
func expectCutShort(t *testing.T, f fileOfSet, place int) {
	t.Helper()
	low := f.set % (1 << place)
	after := impl.CutFile(f.table, f.file, place)
	expectCut(t, f.table, f.file, place, withPlaces(f.table, f.file, low))
	expectTableValid(t, after, true)
	expectSize(t, after, f.file, sizeOfSet(low))
	expectHoles(t, after, f.file, holesOfSet(low))
	if size := impl.FileSize(after, f.file); size > place {
		t.Errorf("CutFile(%v, %d, %d) has the size %d", f.table, f.file, place, size)
	}
	for n := 0; n < place; n++ {
		expectGet(t, after, f.file, n, impl.TableGet(f.table, f.file, n))
	}
	expectOtherFilesStay(t, f.table, after, f.file)
}

// expectOtherFilesStay expects that two tables differ in one file at most.
func expectOtherFilesStay(t *testing.T, x impl.Table, after impl.Table, file int) {
	t.Helper()
	for other := 0; other < filesOfTable; other++ {
		if other == file {
			continue
		}
		for place := 0; place < placesOfFile; place++ {
			expectGet(t, after, other, place, impl.TableGet(x, other, place))
		}
	}
}

func TestP54CutFilesAreShort(t *testing.T) {
	for _, f := range filesOfSets() {
		for place := 0; place <= placesOfFile; place++ {
			expectCutShort(t, f, place)
		}
	}
}

func TestP54CutsOfAllTables(t *testing.T) {
	for _, x := range validTables() {
		for file, list := range x.At {
			for place := 0; place <= placesOfFile; place++ {
				expectCutShort(t, fileOfSet{x, file, setOfList(list)}, place)
			}
		}
	}
}

func TestP54TheSecondCutCountsIfItIsShorter(t *testing.T) {
	for _, x := range someTables() {
		for file := 0; file < filesOfTable; file++ {
			for first := 0; first <= placesOfFile; first++ {
				for second := 0; second <= placesOfFile; second++ {
					expectCut(t, impl.CutFile(x, file, first), file, second, impl.CutFile(x, file, min(first, second)))
				}
			}
		}
	}
}

func TestP54PlacesOfCutsHaveBounds(t *testing.T) {
	for _, x := range validTables() {
		for file := -1; file <= filesOfTable; file++ {
			for _, place := range endsOutOfBounds() {
				expectCut(t, x, file, place, impl.Table{})
			}
		}
	}
}

func TestP54FilesOutOfBoundsAreNotCut(t *testing.T) {
	for _, x := range validTables() {
		for _, file := range filesOutOfBounds() {
			for place := -1; place <= placesOfFile+1; place++ {
				expectCut(t, x, file, place, impl.Table{})
			}
		}
	}
}

func TestP54OtherTablesAreNotCut(t *testing.T) {
	for _, x := range invalidTables() {
		for file := -1; file <= filesOfTable; file++ {
			for place := -1; place <= placesOfFile+1; place++ {
				expectCut(t, x, file, place, impl.Table{})
			}
		}
	}
}

// P49: without the pages of a file, which can be cut off, a valid table is valid.

func TestP49WithoutThePagesOfAFileThatIsCutATableIsValid(t *testing.T) {
	for _, x := range validTables() {
		for file := 0; file < filesOfTable; file++ {
			expectCut(t, x, file, 0, withList(x, file, slices.Repeat([]int{-1}, placesOfFile)))
			expectTableValid(t, impl.CutFile(x, file, 0), true)
		}
	}
}

func TestP49WithoutAnyFileATableIsValid(t *testing.T) {
	for _, x := range validTables() {
		for file := 0; file < filesOfTable; file++ {
			x = impl.CutFile(x, file, 0)
			expectTableValid(t, x, true)
		}
		expectChanges(t, x, tableOf(noPages()), 0)
	}
}

func TestP49WithoutListsNothingIsCut(t *testing.T) {
	expectCut(t, impl.Table{}, 0, 0, impl.Table{})
	expectTableValid(t, impl.CutFile(impl.Table{}, 0, 0), false)
}

// P55: values are those of pages.

// valueAtPlace is what the tests write at the n-th of all places of all files, different at each: also 0 and the greatest value.
func valueAtPlace(n int) int {
	switch n {
	case 7:
		return 0
	case 8:
		return 9999
	default:
		return 100 + n
	}
}

// deviceForNumbers returns a full device for a table of all pages: each has its value of valueAtPlace.
func deviceForNumbers(numbers []int) []impl.Block {
	pages := make([]impl.Page, mostPages)
	for n, at := range numbers {
		pages[at] = written(n/placesOfFile, n%placesOfFile, valueAtPlace(n), mostPages-n)
	}
	return splitDevice(pages, slices.Repeat([]int{pagesOfBlock}, mostBlocks))
}

// valuesOfSet reckons the values of a file with the places of a set.
func valuesOfSet(file int, set int) []int {
	values := make([]int, sizeOfSet(set))
	for place := range values {
		if hasByHalving(set, place) {
			values[place] = valueAtPlace(file*placesOfFile + place)
		}
	}
	return values
}

// valuesByPages reckons the values of a file: nothing is known of the device but its pages, and of the table but its lists.
func valuesByPages(d []impl.Block, x impl.Table, file int) ([]int, bool) {
	pages := allPages(d)
	values := make([]int, sizeOfSet(setOfList(x.At[file])))
	for place, at := range x.At[file] {
		if at == -1 {
			continue
		}
		if at >= len(pages) {
			return nil, false
		}
		if p := pages[at]; p != written(file, place, p.Value, p.Stamp) {
			return nil, false
		}
		values[place] = pages[at].Value
	}
	return values, true
}

// expectValuesByPages expects of all files what is reckoned from the pages.
func expectValuesByPages(t *testing.T, d []impl.Block, x impl.Table) {
	t.Helper()
	for file := 0; file < filesOfTable; file++ {
		values, done := valuesByPages(d, x, file)
		expectValues(t, d, x, file, values, done)
	}
}

// twoFiles is a device with pages of the files 0 and 3: the older page of place 2 of file 3 is the page 1.
func twoFiles() []impl.Block {
	return splitDevice([]impl.Page{
		written(0, 0, 50, 1),
		written(3, 2, 60, 2),
		written(3, 0, 70, 3),
		written(0, 1, 0, 4),
		written(3, 2, 80, 5),
		written(0, 3, 9999, 6),
	}, []int{3, 3})
}

func TestP55ValuesOfSomeFiles(t *testing.T) {
	d := twoFiles()
	x := impl.TableOf(d)
	expectValues(t, d, x, 0, []int{50, 0, 0, 9999}, true)
	expectValues(t, d, x, 3, []int{70, 0, 80}, true)
	expectValues(t, d, x, 1, nil, true)
	expectValues(t, d, x, 7, nil, true)
	// The place 1 of file 0 has a page with the value 0, the place 2 is a hole.
	expectHoles(t, x, 0, []int{2})
	expectHoles(t, x, 3, []int{1})
	last := splitDevice([]impl.Page{written(7, 5, 8, 9)}, []int{0, 1})
	expectValues(t, last, impl.TableOf(last), 7, []int{0, 0, 0, 0, 0, 8}, true)
	expectValues(t, impl.NewDevice(1), tableOf(noPages()), 0, nil, true)
}

func TestP55AnOlderPageHasAValue(t *testing.T) {
	expectValues(t, twoFiles(), withList(impl.TableOf(twoFiles()), 3, []int{2, -1, 1, -1, -1, -1}), 3, []int{70, 0, 60}, true)
}

func TestP55CutFilesHaveTheFirstValues(t *testing.T) {
	d := twoFiles()
	x := impl.TableOf(d)
	for place, values := range [][]int{{}, {50}, {50, 0}, {50, 0}, {50, 0, 0, 9999}, {50, 0, 0, 9999}, {50, 0, 0, 9999}} {
		expectValues(t, d, impl.CutFile(x, 0, place), 0, values, true)
		expectValues(t, d, impl.CutFile(x, 0, place), 3, []int{70, 0, 80}, true)
	}
}

// twoFilesWith returns a table of the device twoFiles in which file 3 has other pages, and no other file has any.
func twoFilesWith(list []int) impl.Table {
	return withList(tableOf(noPages()), 3, list)
}

func TestP55WrongPagesHaveNoValues(t *testing.T) {
	d := twoFiles()
	expectValues(t, d, twoFilesWith([]int{2, -1, 5, -1, -1, -1}), 3, []int{70, 0, 80}, true)
	// The pages 3 and 7 are not written, and a device of two blocks has no page 8.
	for _, wrong := range []int{3, 7, 8, 47} {
		expectNoValues(t, d, twoFilesWith([]int{2, wrong, 5, -1, -1, -1}), 3)
		expectNoValues(t, d, twoFilesWith([]int{wrong, -1, 5, -1, -1, -1}), 3)
		expectNoValues(t, d, twoFilesWith([]int{2, -1, 5, -1, -1, wrong}), 3)
	}
	// The page 0 is at place 0 of file 0, the page 4 at place 1 of it, and the page 6 at place 3.
	expectNoValues(t, d, twoFilesWith([]int{0, -1, 5, -1, -1, -1}), 3)
	expectNoValues(t, d, twoFilesWith([]int{2, 4, 5, -1, -1, -1}), 3)
	expectNoValues(t, d, twoFilesWith([]int{2, -1, 5, 6, -1, -1}), 3)
	// The pages 1 and 5 are at place 2 of file 3, and the page 2 at its place 0.
	expectNoValues(t, d, twoFilesWith([]int{2, 1, 5, -1, -1, -1}), 3)
	expectNoValues(t, d, twoFilesWith([]int{5, -1, 2, -1, -1, -1}), 3)
	expectNoValues(t, d, twoFilesWith([]int{-1, -1, -1, -1, -1, 2}), 3)
}

// A page that is not written has the numbers of place 0 of file 0, and so has what is read where no page is.
func TestP55WithoutAWrittenPageTheFirstFileHasNoValues(t *testing.T) {
	for many := 1; many <= mostBlocks; many++ {
		for at := 0; at < mostPages; at++ {
			x := tableOf(withNumber(noPages(), 0, at))
			expectNoValues(t, impl.NewDevice(many), x, 0)
			expectValues(t, impl.NewDevice(many), x, 1, nil, true)
		}
	}
}

func TestP55PagesOfOtherFilesDoNotMatter(t *testing.T) {
	d := twoFiles()
	for _, wrong := range []int{0, 3, 4, 7, 8, 47} {
		for place := 0; place < placesOfFile; place++ {
			list := withNumber([]int{-1, -1, -1, -1, -1, -1}, place, wrong)
			for _, other := range []int{2, 4, 7} {
				x := withList(twoFilesWith([]int{2, -1, 5, -1, -1, -1}), other, list)
				expectValues(t, d, x, 3, []int{70, 0, 80}, true)
				expectNoValues(t, d, x, other)
			}
		}
	}
}

// All pages at all places, on a device with pages of three files of which one is older, and on a full one.
func TestP55OnlyPagesOfTheFileAndThePlaceHaveValues(t *testing.T) {
	small := splitDevice([]impl.Page{
		written(0, 0, 1, 9), written(2, 1, 2, 8), written(2, 1, 3, 7), written(1, 2, 4, 6),
		written(2, 0, 5, 5), written(1, 0, 6, 4), written(0, 5, 7, 3),
	}, []int{4, 0, 2, 1})
	for _, d := range [][]impl.Block{small, deviceForNumbers(shiftedPages(1))} {
		numbers := numbersOf(impl.TableOf(d))
		for n := 0; n < allPlaces; n++ {
			for at := 0; at < mostPages; at++ {
				expectValuesByPages(t, d, tableOf(movedTo(numbers, n, at)))
			}
		}
	}
}

// movedTo returns the numbers of a table with a page at one place, and at no other one.
func movedTo(numbers []int, n int, at int) []int {
	numbers = slices.Clone(numbers)
	if before := slices.Index(numbers, at); before >= 0 {
		numbers[before] = -1
	}
	numbers[n] = at
	return numbers
}

func TestP55ValuesAreThoseOfPages(t *testing.T) {
	for _, numbers := range [][]int{ascendingPages(), shiftedPages(1), shiftedPages(29)} {
		d := deviceForNumbers(numbers)
		for file := 0; file < filesOfTable; file++ {
			for set := 0; set < 64; set++ {
				x := withPlaces(tableOf(numbers), file, set)
				alone := withList(tableOf(noPages()), file, x.At[file])
				expectValues(t, d, x, file, valuesOfSet(file, set), true)
				expectValues(t, d, alone, file, valuesOfSet(file, set), true)
				expectManyValues(t, d, x, file)
			}
		}
	}
}

// expectManyValues expects what promise 55 says: as many values as the size, and 0 for holes.
func expectManyValues(t *testing.T, d []impl.Block, x impl.Table, file int) {
	t.Helper()
	values, done := impl.FileValues(d, x, file)
	if !done || len(values) != impl.FileSize(x, file) {
		t.Fatalf("FileValues(%+v, %v, %d) = %v, %t", d, x, file, values, done)
	}
	for _, place := range impl.FileHoles(x, file) {
		if values[place] != 0 {
			t.Errorf("FileValues(%+v, %v, %d) = %v: the hole %d has a value", d, x, file, values, place)
		}
	}
}

// The tables name pages of many devices that are there, and of many that are not.
func TestP55ValuesOfAllTables(t *testing.T) {
	devices := [][]impl.Block{twoFiles(), deviceForNumbers(ascendingPages()), deviceForNumbers(shiftedPages(1))}
	for _, d := range devices {
		for _, x := range validTables() {
			expectValuesByPages(t, d, x)
		}
	}
}

func TestP55FilesOutOfBoundsHaveNoValues(t *testing.T) {
	d := deviceForNumbers(ascendingPages())
	for _, x := range validTables() {
		for _, file := range filesOutOfBounds() {
			expectNoValues(t, d, x, file)
			expectNoValues(t, impl.NewDevice(1), x, file)
		}
	}
}

// Also of a file all of whose pages are right a table that is not valid has no values.
func TestP55OtherTablesHaveNoValues(t *testing.T) {
	devices := [][]impl.Block{impl.NewDevice(1), deviceForNumbers(ascendingPages()), deviceForNumbers(shiftedPages(1))}
	for _, d := range devices {
		for _, x := range invalidTables() {
			for file := -1; file <= filesOfTable; file++ {
				expectNoValues(t, d, x, file)
			}
		}
	}
}

// The table names a page that is right, if it is there at all, or none.
func TestP55OtherDevicesHaveNoValues(t *testing.T) {
	p := pageAt(0)
	own := tableOf(withNumber(noPages(), p.File*placesOfFile+p.Place, 0))
	for _, d := range invalidDevices() {
		for file := -1; file <= filesOfTable; file++ {
			expectNoValues(t, d, own, file)
			expectNoValues(t, d, tableOf(noPages()), file)
		}
	}
}

// P5: the pages that tables of devices name have values.

// newestValues reckons the values of a file of the table of a device: those of its newest pages.
func newestValues(d []impl.Block, file int) []int {
	pages := allPages(d)
	var values []int
	holes := 0
	for place := 0; place < placesOfFile; place++ {
		at := newestPage(d, file, place)
		if at == -1 {
			holes++
			continue
		}
		values = append(append(values, make([]int, holes)...), pages[at].Value)
		holes = 0
	}
	return values
}

func TestP5FilesHaveTheValuesOfTheNewestPages(t *testing.T) {
	devices := slices.Concat(validDevices(), smallDevices(), [][]impl.Block{twoFiles(), deviceForNumbers(shiftedPages(29))})
	for _, d := range devices {
		x := impl.TableOf(d)
		for file := 0; file < filesOfTable; file++ {
			expectValues(t, d, x, file, newestValues(d, file), true)
		}
	}
}

func TestP5CutTablesNameWrittenPages(t *testing.T) {
	for _, d := range [][]impl.Block{twoFiles(), deviceForNumbers(shiftedPages(29))} {
		for file := 0; file < filesOfTable; file++ {
			for place := 0; place <= placesOfFile; place++ {
				expectNamedWritten(t, d, impl.CutFile(impl.TableOf(d), file, place))
			}
		}
	}
}

func TestP5AWrittenPageIsInItsFile(t *testing.T) {
	d := impl.NewDevice(2)
	for n, p := range []impl.Page{written(6, 4, 10, 1), written(6, 4, 20, 2), written(6, 1, 30, 3), written(6, 4, 40, 4)} {
		d, _ = impl.Program(d, n%2, p)
		values, done := impl.FileValues(d, impl.TableOf(d), 6)
		if !done || values[p.Place] != p.Value {
			t.Errorf("FileValues(%+v, %v, 6) = %v, %t", d, impl.TableOf(d), values, done)
		}
	}
}

// What is given and what is returned share no memory.

// fileNumbers are numbers of files for the tests on memory: the first, a middle and the last one, and two that no file has.
func fileNumbers() []int {
	return []int{-1, 0, 4, filesOfTable - 1, filesOfTable}
}

// fileCalls are calls that take a table: of the ones that return a table, some cut it, some leave it as it is, and some are not valid.
func fileCalls() []tableCall {
	var calls []tableCall
	for _, file := range fileNumbers() {
		for _, c := range fileListCalls(file) {
			calls = append(calls, tableCall{c.name, func(x impl.Table) impl.Table { c.call(x); return impl.Table{} }})
		}
		calls = append(calls, tableCall{"FileSize", func(x impl.Table) impl.Table { impl.FileSize(x, file); return impl.Table{} }})
		for place := -1; place <= placesOfFile+1; place++ {
			calls = append(calls, tableCall{"CutFile", func(x impl.Table) impl.Table { return impl.CutFile(x, file, place) }})
		}
	}
	return calls
}

// fileListCall is a function of the chapter with all arguments but the table, and the list that it returns.
type fileListCall struct {
	name string
	call func(x impl.Table) []int
}

// fileListCalls are calls for holes and for values, of devices whose pages are right for a table of the tests or not.
func fileListCalls(file int) []fileListCall {
	calls := []fileListCall{{"FileHoles", func(x impl.Table) []int { return impl.FileHoles(x, file) }}}
	for _, d := range [][]impl.Block{nil, twoFiles(), deviceForNumbers(ascendingPages()), deviceForNumbers(shiftedPages(1))} {
		calls = append(calls, fileListCall{"FileValues", func(x impl.Table) []int {
			values, _ := impl.FileValues(d, x, file)
			return values
		}})
	}
	return calls
}

func TestTablesGivenForFilesAreNotWrittenTo(t *testing.T) {
	for _, c := range fileCalls() {
		for _, x := range tablesInMemory() {
			expectTableNotWritten(t, c, x)
		}
	}
}

func TestTablesOfCutFilesShareNoMemory(t *testing.T) {
	for _, c := range fileCalls() {
		for _, x := range tablesInMemory() {
			expectNewTable(t, c, x)
			expectListsApart(t, c.name, c.call(x))
		}
	}
}

// expectNewList expects that what is written into a list changes neither the table nor another list.
func expectNewList(t *testing.T, c fileListCall, x impl.Table) {
	t.Helper()
	given := tableWithRoom(x)
	before := allNumbers(given)
	other := c.call(given)
	otherBefore := slices.Clone(other)
	overwriteLists([][]int{c.call(given)})
	if !sameTable(given, x) || !sameTable(allNumbers(given), before) {
		t.Fatalf("%s: shares memory with %v", c.name, x)
	}
	if !slices.Equal(other, otherBefore) || !slices.Equal(c.call(given), otherBefore) {
		t.Fatalf("%s: of %v shares memory with another result", c.name, x)
	}
}

func TestListsOfFilesShareNoMemory(t *testing.T) {
	tables := slices.Concat(tablesInMemory(), []impl.Table{impl.TableOf(twoFiles())})
	for _, f := range filesOfSets() {
		if f.set%5 == 0 {
			tables = append(tables, f.table)
		}
	}
	for _, file := range fileNumbers() {
		for _, c := range fileListCalls(file) {
			for _, x := range tables {
				expectNewList(t, c, x)
			}
		}
	}
}

// A table may be given whose lists share their numbers, if all are -1: cut, it must not do so.
func TestListsGivenForFilesMayShareMemory(t *testing.T) {
	shared := impl.Table{At: slices.Repeat([][]int{slices.Repeat([]int{-1}, placesOfFile)}, filesOfTable)}
	for file := 0; file < filesOfTable; file++ {
		for place := 0; place <= placesOfFile; place++ {
			expectCut(t, shared, file, place, tableOf(noPages()))
			expectListsApart(t, "CutFile", impl.CutFile(shared, file, place))
		}
		expectSize(t, shared, file, 0)
		expectHoles(t, shared, file, nil)
		expectValues(t, twoFiles(), shared, file, nil, true)
	}
}

func TestDevicesGivenForValuesAreNotWrittenTo(t *testing.T) {
	p := pageAt(0)
	tables := []impl.Table{
		{},
		tableOf(noPages()),
		tableOf(withNumber(noPages(), p.File*placesOfFile+p.Place, 0)),
		tableOf(ascendingPages()),
	}
	for _, file := range fileNumbers() {
		for _, d := range devicesInMemory() {
			for _, x := range append(tables, impl.TableOf(d)) {
				call := deviceCall{"FileValues", func(d []impl.Block) []impl.Block { impl.FileValues(d, x, file); return nil }}
				expectGivenNotWritten(t, call, d)
			}
		}
	}
}

// A device may be given whose blocks share their pages: each page has a number of its own all the same.
func TestBlocksGivenForValuesMayShareMemory(t *testing.T) {
	for size := 1; size <= mostBlocks; size++ {
		for many := 0; many <= pagesOfBlock; many++ {
			shared := slices.Repeat([]impl.Block{blockWith(5, many)}, size)
			expectValuesByPages(t, shared, impl.TableOf(shared))
			last := (size - 1) * pagesOfBlock
			expectValuesByPages(t, shared, withList(tableOf(noPages()), 3, []int{-1, -1, last, -1, -1, -1}))
		}
	}
}
