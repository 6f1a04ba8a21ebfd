package tests

import (
	"math"
	"slices"
	"testing"

	"loop.example/flashfiles/impl"
)

const (
	filesOfTable = 8
	placesOfFile = 6
	allPlaces    = filesOfTable * placesOfFile
	mostPages    = pagesOfBlock * mostBlocks
)

// tableOf returns a table with some numbers, file by file, and in each by places.
func tableOf(numbers []int) impl.Table {
	return impl.Table{At: slices.Collect(slices.Chunk(slices.Clone(numbers), placesOfFile))}
}

// numbersOf returns what stands in a table, file by file, and in each by places.
func numbersOf(x impl.Table) []int {
	return slices.Concat(x.At...)
}

func noPages() []int {
	return slices.Repeat([]int{-1}, allPlaces)
}

// ascendingPages are all pages, each at another place.
func ascendingPages() []int {
	return numbersFromTo(0, mostPages-1)
}

// shiftedPages are all pages, so many numbers farther on than ascendingPages.
func shiftedPages(by int) []int {
	numbers := ascendingPages()
	for n := range numbers {
		numbers[n] = (n + by) % mostPages
	}
	return numbers
}

// everySecond returns the same numbers with none at every second place.
func everySecond(numbers []int, first int) []int {
	numbers = slices.Clone(numbers)
	for n := first; n < len(numbers); n += 2 {
		numbers[n] = -1
	}
	return numbers
}

// withNumber returns a list with another number at one place.
func withNumber(numbers []int, n int, number int) []int {
	numbers = slices.Clone(numbers)
	numbers[n] = number
	return numbers
}

// withList returns a table with another list for a file.
func withList(x impl.Table, file int, list []int) impl.Table {
	other := cloneTable(x)
	other.At[file] = list
	return other
}

func cloneTable(x impl.Table) impl.Table {
	var lists [][]int
	for _, list := range x.At {
		lists = append(lists, slices.Clone(list))
	}
	return impl.Table{At: lists}
}

func sameTable(a impl.Table, b impl.Table) bool {
	return slices.EqualFunc(a.At, b.At, slices.Equal)
}

// somePlaces are numbers of places in a table: the first two, some in the middle on both sides of the end of a file, and the last two.
func somePlaces() []int {
	return []int{0, 1, placesOfFile - 1, placesOfFile, 20, allPlaces - 2, allPlaces - 1}
}

// tablesWithOnePage are tables that name one page, the least, a middle or the greatest one, at each of some places.
func tablesWithOnePage() []impl.Table {
	var tables []impl.Table
	for _, n := range somePlaces() {
		for _, at := range []int{0, 23, mostPages - 1} {
			tables = append(tables, tableOf(withNumber(noPages(), n, at)))
		}
	}
	return tables
}

// tablesWithoutOnePage are tables with all pages but one.
func tablesWithoutOnePage() []impl.Table {
	var tables []impl.Table
	for _, n := range somePlaces() {
		tables = append(tables, tableOf(withNumber(ascendingPages(), n, -1)))
	}
	return tables
}

// validTables name no page, one, half of them, all but one, or all.
func validTables() []impl.Table {
	descending := ascendingPages()
	slices.Reverse(descending)
	tables := []impl.Table{
		tableOf(noPages()),
		tableOf(ascendingPages()),
		tableOf(descending),
		tableOf(shiftedPages(1)),
		tableOf(shiftedPages(mostPages - 1)),
		tableOf(everySecond(ascendingPages(), 0)),
		tableOf(everySecond(ascendingPages(), 1)),
		tableOf(everySecond(descending, 0)),
	}
	return slices.Concat(tables, tablesWithOnePage(), tablesWithoutOnePage())
}

// someTables are a few valid tables for tests with many other arguments.
func someTables() []impl.Table {
	return []impl.Table{tableOf(noPages()), tableOf(everySecond(ascendingPages(), 1)), tableOf(shiftedPages(1))}
}

// tablesOfOtherSize are tables with fewer lists than there must be, and with more, none of them with a page twice.
func tablesOfOtherSize() []impl.Table {
	tables := []impl.Table{{}, {At: [][]int{}}}
	for _, many := range []int{1, 2, 7, 9, 10, 16} {
		tables = append(tables, impl.Table{At: slices.Repeat([][]int{slices.Repeat([]int{-1}, placesOfFile)}, many)})
	}
	for _, x := range someTables() {
		longer := cloneTable(x)
		longer.At = append(longer.At, slices.Repeat([]int{-1}, placesOfFile))
		tables = append(tables, impl.Table{At: cloneTable(x).At[:filesOfTable-1]}, longer)
	}
	return tables
}

// listsOfOtherSize are lists for one file that are too short or too long, also by a page that no other place has.
func listsOfOtherSize(list []int) [][]int {
	return [][]int{
		nil,
		{},
		slices.Clone(list[:1]),
		slices.Clone(list[:placesOfFile-1]),
		append(slices.Clone(list), -1),
		slices.Repeat([]int{-1}, 2*placesOfFile),
		slices.Repeat([]int{-1}, allPlaces),
	}
}

// tablesWithOtherLists are tables in which the list of one file has another size.
func tablesWithOtherLists() []impl.Table {
	var tables []impl.Table
	for _, x := range someTables() {
		for file, list := range x.At {
			for _, other := range listsOfOtherSize(list) {
				tables = append(tables, withList(x, file, other))
			}
		}
	}
	// The page 47 stands at a place too many, and nowhere else.
	tables = append(tables, withList(tableOf(noPages()), 7, []int{-1, -1, -1, -1, -1, -1, 47}))
	return append(tables, tablesWithMovedNumbers()...)
}

// tablesWithMovedNumbers are tables with as many numbers as there must be, of which one is in another list.
func tablesWithMovedNumbers() []impl.Table {
	var tables []impl.Table
	for _, x := range someTables() {
		for file := 0; file+1 < filesOfTable; file++ {
			next := x.At[file+1]
			longer := withList(x, file, append(slices.Clone(x.At[file]), next[0]))
			tables = append(tables, withList(longer, file+1, slices.Clone(next[1:])))
		}
	}
	return tables
}

func numbersOfNoPage() []int {
	return []int{-2, -3, -mostPages, mostPages, mostPages + 1, 2 * mostPages, math.MinInt, math.MaxInt}
}

// tablesWithOtherNumbers are tables with a number at one place that no page has.
func tablesWithOtherNumbers() []impl.Table {
	var tables []impl.Table
	for _, x := range someTables() {
		for n := 0; n < allPlaces; n++ {
			for _, number := range numbersOfNoPage() {
				tables = append(tables, tableOf(withNumber(numbersOf(x), n, number)))
			}
		}
	}
	return tables
}

// tableWithTwice returns a table that names a page at two places, and no other page.
func tableWithTwice(at int, first int, second int) impl.Table {
	return tableOf(withNumber(withNumber(noPages(), first, at), second, at))
}

// tablesWithPagesTwice are tables with a page at two places, of one file and of two.
func tablesWithPagesTwice() []impl.Table {
	var tables []impl.Table
	for _, first := range somePlaces() {
		for _, second := range somePlaces() {
			if first == second {
				continue
			}
			tables = append(tables, tableOf(withNumber(ascendingPages(), first, second)))
			for _, at := range []int{0, 23, mostPages - 1} {
				tables = append(tables, tableWithTwice(at, first, second))
			}
		}
	}
	return tables
}

func invalidTables() []impl.Table {
	return slices.Concat(tablesOfOtherSize(), tablesWithOtherLists(), tablesWithOtherNumbers(), tablesWithPagesTwice())
}

// someInvalidTables are a few of every kind, for tests with many other arguments.
func someInvalidTables() []impl.Table {
	tables := slices.Concat(tablesOfOtherSize(), tablesWithPagesTwice())
	for n, x := range slices.Concat(tablesWithOtherLists(), tablesWithOtherNumbers()) {
		if n%7 == 0 {
			tables = append(tables, x)
		}
	}
	return tables
}

func filesOutOfBounds() []int {
	return []int{-1, -2, -filesOfTable, filesOfTable, filesOfTable + 1, math.MinInt, math.MaxInt}
}

func placesOutOfBounds() []int {
	return []int{-1, -2, -placesOfFile, placesOfFile, placesOfFile + 1, 7 * placesOfFile, math.MinInt, math.MaxInt}
}

// fileAndPlace is a place of a file.
type fileAndPlace struct{ file, place int }

// placesBeside are files and places of which one is out of bounds, or both.
func placesBeside() []fileAndPlace {
	var beside []fileAndPlace
	for _, file := range filesOutOfBounds() {
		for place := -1; place <= placesOfFile; place++ {
			beside = append(beside, fileAndPlace{file, place})
		}
	}
	for _, place := range placesOutOfBounds() {
		for file := -1; file <= filesOfTable; file++ {
			beside = append(beside, fileAndPlace{file, place})
		}
	}
	return beside
}

func expectTableValid(t *testing.T, x impl.Table, valid bool) {
	t.Helper()
	if got := impl.TableValid(x); got != valid {
		t.Errorf("TableValid(%v) = %t", x, got)
	}
}

func expectTableOf(t *testing.T, d []impl.Block, x impl.Table) {
	t.Helper()
	if got := impl.TableOf(d); !sameTable(got, x) {
		t.Errorf("TableOf(%+v) = %v, not %v", d, got, x)
	}
}

func expectGet(t *testing.T, x impl.Table, file int, place int, at int) {
	t.Helper()
	if got := impl.TableGet(x, file, place); got != at {
		t.Errorf("TableGet(%v, %d, %d) = %d, not %d", x, file, place, got, at)
	}
}

func expectPut(t *testing.T, x impl.Table, file int, place int, at int, after impl.Table, done bool) {
	t.Helper()
	if gotAfter, got := impl.TablePut(x, file, place, at); got != done || !sameTable(gotAfter, after) {
		t.Errorf("TablePut(%v, %d, %d, %d) = %v, %t, not %v, %t", x, file, place, at, gotAfter, got, after, done)
	}
}

// expectNotPut expects what there is for arguments that are not valid.
func expectNotPut(t *testing.T, x impl.Table, file int, place int, at int) {
	t.Helper()
	expectPut(t, x, file, place, at, impl.Table{}, false)
}

func expectChanges(t *testing.T, a impl.Table, b impl.Table, changes int) {
	t.Helper()
	if got := impl.TableChanges(a, b); got != changes {
		t.Errorf("TableChanges(%v, %v) = %d, not %d", a, b, got, changes)
	}
}

// P49: tables are valid with their lists, and with every page at one place at most.

func TestP49ValidTables(t *testing.T) {
	for _, x := range validTables() {
		expectTableValid(t, x, true)
	}
}

func TestP49WithoutThePagesOfAFileATableIsValid(t *testing.T) {
	for _, x := range validTables() {
		for file := range x.At {
			expectTableValid(t, withList(x, file, slices.Repeat([]int{-1}, placesOfFile)), true)
		}
	}
}

func TestP49WithoutListsATableIsNotValid(t *testing.T) {
	expectTableValid(t, impl.Table{}, false)
	expectTableValid(t, impl.Table{At: [][]int{}}, false)
	expectTableValid(t, impl.Table{At: make([][]int, filesOfTable)}, false)
}

func TestP49TablesHaveAListForEveryFile(t *testing.T) {
	list := slices.Repeat([]int{-1}, placesOfFile)
	for many := 0; many <= 2*filesOfTable; many++ {
		expectTableValid(t, impl.Table{At: slices.Repeat([][]int{list}, many)}, many == filesOfTable)
	}
	for _, x := range tablesOfOtherSize() {
		expectTableValid(t, x, false)
	}
}

func TestP49ListsHaveANumberForEveryPlace(t *testing.T) {
	for size := 0; size <= 2*placesOfFile; size++ {
		list := slices.Repeat([]int{-1}, size)
		expectTableValid(t, impl.Table{At: slices.Repeat([][]int{list}, filesOfTable)}, size == placesOfFile)
	}
	for _, x := range tablesWithOtherLists() {
		expectTableValid(t, x, false)
	}
}

func TestP49NumbersAreThoseOfPages(t *testing.T) {
	for n := 0; n < allPlaces; n++ {
		for number := -3; number <= mostPages+3; number++ {
			expectTableValid(t, tableOf(withNumber(noPages(), n, number)), number >= -1 && number < mostPages)
		}
	}
	for _, x := range tablesWithOtherNumbers() {
		expectTableValid(t, x, false)
	}
}

func TestP49PagesComeOnce(t *testing.T) {
	for first := 0; first < allPlaces; first++ {
		for second := 0; second < allPlaces; second++ {
			// At its own place a page is there once.
			expectTableValid(t, tableOf(withNumber(ascendingPages(), first, second)), first == second)
		}
		for second := first + 1; second < allPlaces; second++ {
			for at := 0; at < mostPages; at++ {
				expectTableValid(t, tableWithTwice(at, first, second), false)
			}
			expectTableValid(t, tableWithTwice(-1, first, second), true)
		}
	}
	for _, x := range tablesWithPagesTwice() {
		expectTableValid(t, x, false)
	}
}

// P5: tables of devices name the newest pages.

// newestPage reckons the page that a table names for a file and a place: it sorts all that there are.
func newestPage(d []impl.Block, file int, place int) int {
	pages := allPages(d)
	var found []int
	for at, p := range pages {
		if p.Full && p.File == file && p.Place == place {
			found = append(found, at)
		}
	}
	if len(found) == 0 {
		return -1
	}
	slices.SortStableFunc(found, func(a int, b int) int { return pages[b].Stamp - pages[a].Stamp })
	return found[0]
}

// newestPages reckons the table of a device.
func newestPages(d []impl.Block) impl.Table {
	numbers := noPages()
	for n := range numbers {
		numbers[n] = newestPage(d, n/placesOfFile, n%placesOfFile)
	}
	return tableOf(numbers)
}

// expectNewest expects what the document says about a valid device, and what promise 5 does.
func expectNewest(t *testing.T, d []impl.Block) {
	t.Helper()
	expectTableOf(t, d, newestPages(d))
	x := impl.TableOf(d)
	expectTableValid(t, x, true)
	for at, p := range allPages(d) {
		if !p.Full {
			continue
		}
		named, full := impl.ReadPage(d, impl.TableGet(x, p.File, p.Place))
		if !full || named.Stamp < p.Stamp {
			t.Errorf("TableOf(%+v) = %v names %+v, not page %d", d, x, named, at)
		}
	}
	expectNamedWritten(t, d, x)
}

// expectNamedWritten expects that every page that a table names is written, of that file and place.
func expectNamedWritten(t *testing.T, d []impl.Block, x impl.Table) {
	t.Helper()
	for file := 0; file < filesOfTable; file++ {
		for place := 0; place < placesOfFile; place++ {
			at := impl.TableGet(x, file, place)
			if at == -1 {
				continue
			}
			if p, full := impl.ReadPage(d, at); !full || p.File != file || p.Place != place {
				t.Errorf("TableOf(%+v) = %v names page %d at place %d of file %d", d, x, at, place, file)
			}
		}
	}
}

// splitDevice returns a device whose blocks have so many of some pages, in order.
func splitDevice(pages []impl.Page, counts []int) []impl.Block {
	var d []impl.Block
	for n, many := range counts {
		b := blockWith(3*n, 0)
		copy(b.Pages, pages[:many])
		pages = pages[many:]
		d = append(d, b)
	}
	return d
}

func TestP5TablesOfEmptyDevicesNameNothing(t *testing.T) {
	for many := 1; many <= mostBlocks; many++ {
		expectTableOf(t, impl.NewDevice(many), tableOf(noPages()))
		expectTableValid(t, impl.TableOf(impl.NewDevice(many)), true)
		expectTableOf(t, deviceOf(make([]int, many)), tableOf(noPages()))
	}
}

func TestP5OtherDevicesHaveNoTable(t *testing.T) {
	for _, d := range invalidDevices() {
		expectTableOf(t, d, impl.Table{})
		expectTableValid(t, impl.TableOf(d), false)
	}
}

func TestP5TablesOfSomeDevices(t *testing.T) {
	pages := []impl.Page{written(2, 1, 5, 4), written(0, 0, 6, 7), written(2, 1, 0, 9), written(7, 5, 8, 1000000), written(2, 1, 9999, 6)}
	numbers := withNumber(noPages(), 0, 1)
	numbers[2*placesOfFile+1] = 2
	numbers[allPlaces-1] = 3
	expectTableOf(t, splitDevice(pages, []int{4, 1}), tableOf(numbers))
	expectTableOf(t, splitDevice(pages[:4], []int{4}), tableOf(numbers))
	// In the second block its page has the number 4.
	numbers[allPlaces-1] = 4
	expectTableOf(t, splitDevice(pages, []int{3, 2, 0}), tableOf(numbers))
}

func TestP5TheGreatestStampIsNamedWhereverItStands(t *testing.T) {
	for _, size := range []int{1, 2, mostBlocks} {
		pages := slices.Repeat([]impl.Page{written(3, 2, 45, 67)}, size*pagesOfBlock)
		for at := range pages {
			for _, stamp := range []int{68, 1000000} {
				newest := slices.Clone(pages)
				newest[at] = written(3, 2, 0, stamp)
				d := splitDevice(newest, slices.Repeat([]int{pagesOfBlock}, size))
				expectTableOf(t, d, tableOf(withNumber(noPages(), 3*placesOfFile+2, at)))
			}
		}
	}
}

func TestP5OfTheSameStampTheFirstPageIsNamed(t *testing.T) {
	for _, stamp := range []int{1, 67, 1000000} {
		pages := []impl.Page{written(0, 0, 1, 9), written(7, 5, 2, stamp), written(7, 5, 1, stamp), written(7, 5, 2, stamp)}
		for _, counts := range [][]int{{4}, {3, 1}, {2, 2}, {1, 1, 2}, {1, 3}, {1, 1, 1, 1}, {0, 4}} {
			expectNewest(t, splitDevice(pages, counts))
		}
		d := splitDevice(pages, []int{1, 2, 1})
		expectTableOf(t, d, tableOf(withNumber(withNumber(noPages(), 0, 0), allPlaces-1, pagesOfBlock)))
	}
}

// The stamps of other files and places do not matter: four pages of two places, in all orders, with stamps that are less, the same and greater.
func TestP5TablesNameTheNewestPages(t *testing.T) {
	kinds := []impl.Page{written(2, 1, 5, 1), written(2, 1, 9, 5), written(2, 1, 6, 5), written(1, 2, 7, 5), written(1, 2, 8, 9)}
	for _, list := range listsOf(numbersFromTo(0, len(kinds)-1), pagesOfBlock) {
		var pages []impl.Page
		for _, kind := range list {
			pages = append(pages, kinds[kind])
		}
		for _, counts := range [][]int{{4}, {3, 1}, {2, 0, 2}, {1, 3}, {1, 1, 1, 1}} {
			expectNewest(t, splitDevice(pages, counts))
		}
	}
}

func TestP5PagesOfOneFileOrOnePlaceAreApart(t *testing.T) {
	for n := 0; n < allPlaces; n++ {
		own := written(n/placesOfFile, n%placesOfFile, 1, 5)
		for _, stamp := range []int{4, 5, 6} {
			for other := 0; other < allPlaces; other++ {
				d := splitDevice([]impl.Page{own, written(other/placesOfFile, other%placesOfFile, 2, stamp)}, []int{2})
				expectNewest(t, d)
			}
		}
	}
}

func TestP5TablesOfAllDevices(t *testing.T) {
	for _, d := range append(validDevices(), smallDevices()...) {
		expectNewest(t, d)
	}
}

func TestP5AllPagesCanBeNamed(t *testing.T) {
	for _, numbers := range [][]int{ascendingPages(), shiftedPages(1), shiftedPages(29)} {
		pages := make([]impl.Page, mostPages)
		for n, at := range numbers {
			pages[at] = written(n/placesOfFile, n%placesOfFile, n, 1+n)
		}
		expectTableOf(t, splitDevice(pages, slices.Repeat([]int{pagesOfBlock}, mostBlocks)), tableOf(numbers))
	}
}

func TestP5EveryWrittenPageIsNamed(t *testing.T) {
	for _, p := range validPages() {
		if !p.Full {
			continue
		}
		for _, counts := range [][]int{{1}, {0, 1}, {0, 0, 0, 0, 0, 0, 0, 0, 0, 0, 0, 1}} {
			at := (len(counts) - 1) * pagesOfBlock
			expectTableOf(t, splitDevice([]impl.Page{p}, counts), tableOf(withNumber(noPages(), p.File*placesOfFile+p.Place, at)))
		}
	}
}

// P50: tables have pages.

func TestP50PagesOfSomeTables(t *testing.T) {
	x := tableOf(ascendingPages())
	expectGet(t, x, 0, 0, 0)
	expectGet(t, x, 0, 5, 5)
	expectGet(t, x, 1, 0, 6)
	expectGet(t, x, 7, 5, 47)
	one := tableOf(withNumber(noPages(), 13, 0))
	expectGet(t, one, 2, 1, 0)
	expectGet(t, one, 1, 2, -1)
	expectGet(t, one, 0, 0, -1)
}

func TestP50TablesHavePages(t *testing.T) {
	for _, x := range validTables() {
		for n, at := range numbersOf(x) {
			expectGet(t, x, n/placesOfFile, n%placesOfFile, at)
		}
	}
}

func TestP50PlacesThatWereNeverWrittenHaveNone(t *testing.T) {
	x := impl.TableOf(impl.NewDevice(mostBlocks))
	for n := 0; n < allPlaces; n++ {
		expectGet(t, x, n/placesOfFile, n%placesOfFile, -1)
	}
}

func TestP50FilesAndPlacesHaveBounds(t *testing.T) {
	for _, x := range validTables() {
		for _, beside := range placesBeside() {
			expectGet(t, x, beside.file, beside.place, -1)
		}
	}
}

func TestP50OtherTablesHaveNoPages(t *testing.T) {
	for _, x := range invalidTables() {
		for file := -1; file <= filesOfTable; file++ {
			for place := -1; place <= placesOfFile; place++ {
				expectGet(t, x, file, place, -1)
			}
		}
	}
}

// P6: put pages are found.

func TestP6PutsToSomeTables(t *testing.T) {
	empty := tableOf(noPages())
	expectPut(t, empty, 0, 0, 0, tableOf(withNumber(noPages(), 0, 0)), true)
	expectPut(t, empty, 7, 5, 47, tableOf(withNumber(noPages(), 47, 47)), true)
	expectPut(t, empty, 1, 2, 9, tableOf(withNumber(noPages(), 8, 9)), true)
	// None may be put where there is a page, and where there is none.
	all := tableOf(ascendingPages())
	expectPut(t, all, 1, 2, -1, tableOf(withNumber(ascendingPages(), 8, -1)), true)
	expectPut(t, empty, 1, 2, -1, empty, true)
	// The page is there already: at this place, or at another one.
	expectPut(t, all, 1, 2, 8, all, true)
	expectPut(t, all, 1, 2, 9, all, false)
	expectPut(t, all, 1, 2, 14, all, false)
	one := tableOf(withNumber(noPages(), 8, 9))
	expectPut(t, one, 1, 2, 10, tableOf(withNumber(noPages(), 8, 10)), true)
	expectPut(t, one, 2, 1, 9, one, false)
}

func TestP6PutPagesAreFound(t *testing.T) {
	for _, x := range validTables() {
		for n := 0; n < allPlaces; n++ {
			for at := -1; at < mostPages; at++ {
				expectPutFound(t, x, n, at)
			}
		}
	}
}

// expectPutFound expects what the document says about valid arguments, and what promise 6 does.
func expectPutFound(t *testing.T, x impl.Table, n int, at int) {
	t.Helper()
	file, place := n/placesOfFile, n%placesOfFile
	numbers := numbersOf(x)
	if at != -1 && numbers[n] != at && slices.Contains(numbers, at) {
		expectPut(t, x, file, place, at, x, false)
		return
	}
	expectPut(t, x, file, place, at, tableOf(withNumber(numbers, n, at)), true)
	after, _ := impl.TablePut(x, file, place, at)
	expectTableValid(t, after, true)
	expectGet(t, after, file, place, at)
	changes := 0
	if numbers[n] != at {
		changes = 1
	}
	expectChanges(t, x, after, changes)
	expectPut(t, after, file, place, numbers[n], x, true)
}

func TestP6TablesCanBeFilled(t *testing.T) {
	for _, numbers := range [][]int{ascendingPages(), shiftedPages(1), shiftedPages(29)} {
		x := tableOf(noPages())
		for n, at := range numbers {
			after, done := impl.TablePut(x, n/placesOfFile, n%placesOfFile, at)
			if !done {
				t.Fatalf("TablePut(%v, %d, %d, %d) = %v, %t", x, n/placesOfFile, n%placesOfFile, at, after, done)
			}
			expectChanges(t, tableOf(noPages()), after, n+1)
			x = after
		}
		expectChanges(t, x, tableOf(numbers), 0)
	}
}

func TestP6OtherPagesAreNotPut(t *testing.T) {
	for _, x := range validTables() {
		for n := 0; n < allPlaces; n++ {
			for _, at := range numbersOfNoPage() {
				expectNotPut(t, x, n/placesOfFile, n%placesOfFile, at)
			}
		}
	}
}

// A file or a place that is out of bounds is told first: nothing comes back for pages that are in the table, too.
func TestP6AtOtherPlacesNoPageIsPut(t *testing.T) {
	for _, x := range validTables() {
		for _, beside := range placesBeside() {
			for _, at := range []int{-2, -1, 0, 23, mostPages - 1, mostPages} {
				expectNotPut(t, x, beside.file, beside.place, at)
			}
		}
	}
}

func TestP6IntoOtherTablesNoPageIsPut(t *testing.T) {
	for _, x := range someInvalidTables() {
		for file := -1; file <= filesOfTable; file++ {
			for place := -1; place <= placesOfFile; place++ {
				for _, at := range []int{-2, -1, 0, 1, 23, mostPages - 1, mostPages} {
					expectNotPut(t, x, file, place, at)
				}
			}
		}
	}
}

// P51: the same tables do not differ.

// countChanges reckons at how many places two tables differ.
func countChanges(a impl.Table, b impl.Table) int {
	changes := 0
	other := numbersOf(b)
	for n, at := range numbersOf(a) {
		if at != other[n] {
			changes++
		}
	}
	return changes
}

func TestP51ChangesOfSomeTables(t *testing.T) {
	empty := tableOf(noPages())
	all := tableOf(ascendingPages())
	expectChanges(t, empty, empty, 0)
	expectChanges(t, all, all, 0)
	// A page and none are different, and so are two pages.
	expectChanges(t, empty, all, 48)
	expectChanges(t, all, empty, 48)
	expectChanges(t, all, tableOf(shiftedPages(1)), 48)
	expectChanges(t, all, tableOf(withNumber(ascendingPages(), 0, -1)), 1)
	expectChanges(t, all, tableOf(withNumber(ascendingPages(), 47, -1)), 1)
	expectChanges(t, all, tableOf(everySecond(ascendingPages(), 0)), 24)
	expectChanges(t, tableOf(everySecond(ascendingPages(), 1)), tableOf(everySecond(ascendingPages(), 0)), 48)
	// The same page at another place is a change at both.
	expectChanges(t, tableOf(withNumber(noPages(), 3, 7)), tableOf(withNumber(noPages(), 4, 7)), 2)
	expectChanges(t, tableOf(withNumber(noPages(), 3, 7)), tableOf(withNumber(noPages(), 3, 8)), 1)
}

func TestP51TheSameTablesDoNotDiffer(t *testing.T) {
	for _, a := range validTables() {
		expectChanges(t, a, cloneTable(a), 0)
		for _, b := range validTables() {
			changes := countChanges(a, b)
			expectChanges(t, a, b, changes)
			expectChanges(t, b, a, changes)
			if (impl.TableChanges(a, b) == 0) != sameTable(a, b) {
				t.Errorf("TableChanges(%v, %v) = %d", a, b, impl.TableChanges(a, b))
			}
		}
	}
}

func TestP51EveryPlaceCanDiffer(t *testing.T) {
	for n := 0; n < allPlaces; n++ {
		for at := 0; at < mostPages; at++ {
			one := tableOf(withNumber(noPages(), n, at))
			expectChanges(t, tableOf(noPages()), one, 1)
			expectChanges(t, one, tableOf(noPages()), 1)
			expectChanges(t, one, cloneTable(one), 0)
		}
	}
}

func TestP51OtherTablesHaveNoChanges(t *testing.T) {
	for _, x := range invalidTables() {
		for _, valid := range someTables() {
			expectChanges(t, x, valid, -1)
			expectChanges(t, valid, x, -1)
		}
		expectChanges(t, x, x, -1)
		expectChanges(t, x, impl.Table{}, -1)
		expectChanges(t, impl.Table{}, x, -1)
	}
}

// What is given and what is returned share no memory.

// tableCall is a function of the chapter with all arguments but the table, and the table that it returns.
type tableCall struct {
	name string
	call func(x impl.Table) impl.Table
}

// tableCalls are calls that change a table, leave it as it is, or are not valid.
func tableCalls() []tableCall {
	calls := []tableCall{
		{"TableValid", func(x impl.Table) impl.Table { impl.TableValid(x); return impl.Table{} }},
		{"TableChanges first", func(x impl.Table) impl.Table { impl.TableChanges(x, tableOf(noPages())); return impl.Table{} }},
		{"TableChanges second", func(x impl.Table) impl.Table { impl.TableChanges(tableOf(noPages()), x); return impl.Table{} }},
		{"TableChanges both", func(x impl.Table) impl.Table { impl.TableChanges(x, x); return impl.Table{} }},
	}
	for _, own := range []fileAndPlace{{0, 0}, {1, 2}, {7, 5}, {-1, 0}, {8, 0}, {0, -1}, {0, 6}} {
		calls = append(calls, tableCall{"TableGet", func(x impl.Table) impl.Table {
			impl.TableGet(x, own.file, own.place)
			return impl.Table{}
		}})
		for _, at := range []int{-2, -1, 0, 8, 9, mostPages - 1, mostPages} {
			calls = append(calls, tableCall{"TablePut", func(x impl.Table) impl.Table {
				after, _ := impl.TablePut(x, own.file, own.place, at)
				return after
			}})
		}
	}
	return calls
}

// tableWithRoom returns a table with room behind its lists, and behind the numbers of each.
func tableWithRoom(x impl.Table) impl.Table {
	var room [][]int
	for _, list := range slices.Concat(x.At, [][]int{{31, 32}, {33}}) {
		roomy := append(slices.Clone(list), 21, 22, 23)
		room = append(room, roomy[:len(list)])
	}
	return impl.Table{At: room[:len(x.At)]}
}

// allNumbers returns what is in all memory of a table, also behind its lists and behind their numbers.
func allNumbers(x impl.Table) impl.Table {
	var all [][]int
	for _, list := range x.At[:cap(x.At)] {
		all = append(all, slices.Clone(list[:cap(list)]))
	}
	return impl.Table{At: all}
}

// overwriteLists writes into all memory of some lists.
func overwriteLists(lists [][]int) {
	for _, list := range lists {
		all := list[:cap(list)]
		for n := range all {
			all[n] = -77
		}
	}
}

// overwriteTable writes into all memory of a table.
func overwriteTable(x impl.Table) {
	all := x.At[:cap(x.At)]
	overwriteLists(all)
	for file := range all {
		all[file] = []int{-78}
	}
}

func tablesInMemory() []impl.Table {
	return append(validTables(), someInvalidTables()...)
}

// expectTableNotWritten expects that a call writes nothing into its table, nor behind it.
func expectTableNotWritten(t *testing.T, c tableCall, x impl.Table) {
	t.Helper()
	given := tableWithRoom(x)
	before := allNumbers(given)
	c.call(given)
	if !sameTable(given, x) || !sameTable(allNumbers(given), before) {
		t.Fatalf("%s: writes into %v", c.name, x)
	}
}

func TestTablesGivenAreNotWrittenTo(t *testing.T) {
	for _, c := range tableCalls() {
		for _, x := range tablesInMemory() {
			expectTableNotWritten(t, c, x)
		}
	}
}

// expectNewTable expects that what is written into a result changes neither the argument nor another result.
func expectNewTable(t *testing.T, c tableCall, x impl.Table) {
	t.Helper()
	given := tableWithRoom(x)
	before := allNumbers(given)
	other := c.call(given)
	otherBefore := cloneTable(other)
	overwriteTable(c.call(given))
	if !sameTable(given, x) || !sameTable(allNumbers(given), before) {
		t.Fatalf("%s: shares memory with %v", c.name, x)
	}
	if !sameTable(other, otherBefore) {
		t.Fatalf("%s: of %v shares memory with another result", c.name, x)
	}
}

func TestTablesReturnedShareNoMemory(t *testing.T) {
	for _, c := range tableCalls() {
		for _, x := range tablesInMemory() {
			expectNewTable(t, c, x)
		}
	}
}

// expectListsApart expects that no list shares memory with another one of its table, which is overwritten.
func expectListsApart(t *testing.T, name string, x impl.Table) {
	t.Helper()
	for file := range x.At {
		before := cloneTable(x)
		overwriteLists(x.At[file : file+1])
		for other := range x.At {
			if other != file && !slices.Equal(x.At[other], before.At[other]) {
				t.Fatalf("%s: the lists %d and %d of the result share memory", name, file, other)
			}
		}
	}
}

func TestListsOfReturnedTablesShareNoMemory(t *testing.T) {
	for _, c := range tableCalls() {
		for _, x := range tablesInMemory() {
			expectListsApart(t, c.name, c.call(x))
		}
	}
}

// A table may be given whose lists share their numbers, if all are -1: what is returned must not do so.
func TestListsGivenMayShareMemory(t *testing.T) {
	for n := 0; n < allPlaces; n++ {
		for at := -1; at < mostPages; at++ {
			shared := impl.Table{At: slices.Repeat([][]int{slices.Repeat([]int{-1}, placesOfFile)}, filesOfTable)}
			expectPut(t, shared, n/placesOfFile, n%placesOfFile, at, tableOf(withNumber(noPages(), n, at)), true)
			after, _ := impl.TablePut(shared, n/placesOfFile, n%placesOfFile, at)
			expectListsApart(t, "TablePut", after)
		}
	}
}

func TestDevicesGivenForATableAreNotWrittenTo(t *testing.T) {
	call := deviceCall{"TableOf", func(d []impl.Block) []impl.Block { impl.TableOf(d); return nil }}
	for _, d := range devicesInMemory() {
		expectGivenNotWritten(t, call, d)
	}
}

func TestTablesOfDevicesShareNoMemory(t *testing.T) {
	for _, d := range devicesInMemory() {
		other := impl.TableOf(d)
		otherBefore := cloneTable(other)
		overwriteTable(impl.TableOf(d))
		if !sameTable(other, otherBefore) || !sameTable(impl.TableOf(d), otherBefore) {
			t.Fatalf("TableOf(%+v) shares memory with another result", d)
		}
		expectListsApart(t, "TableOf", other)
	}
}

// A device may be given whose blocks share their pages: each page has a number of its own all the same.
func TestBlocksGivenForATableMayShareMemory(t *testing.T) {
	for size := 1; size <= mostBlocks; size++ {
		for many := 0; many <= pagesOfBlock; many++ {
			expectNewest(t, slices.Repeat([]impl.Block{blockWith(5, many)}, size))
		}
	}
}
