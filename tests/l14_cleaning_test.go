package tests

import (
	"math"
	"slices"
	"testing"

	"loop.example/flashfiles/impl"
)

// cleaning is what a block is cleaned with.
type cleaning struct {
	d     []impl.Block
	x     impl.Table
	h     impl.Heads
	n     int
	stamp int
}

// cleaned is what there is after a cleaning.
type cleaned struct {
	d     []impl.Block
	x     impl.Table
	h     impl.Heads
	moved int
	done  bool
}

func clean(c cleaning) cleaned {
	d, x, h, moved, done := impl.CleanBlock(c.d, c.x, c.h, c.n, c.stamp)
	return cleaned{d, x, h, moved, done}
}

// asBefore is what there is after a cleaning that cannot be done.
func asBefore(c cleaning) cleaned {
	return cleaned{c.d, c.x, c.h, 0, false}
}

func sameCleaned(a cleaned, b cleaned) bool {
	return sameDevice(a.d, b.d) && sameTable(a.x, b.x) && a.h == b.h && a.moved == b.moved && a.done == b.done
}

// placedDevice returns a device with so many written pages in each block, whose blocks were erased 3 times more often each. The page at a number is of the place that is so many times as far on among all places: for 1 pages of one file follow each other, for 7 each page is of another file. Stamps do not ascend.
func placedDevice(counts []int, by int) []impl.Block {
	d := deviceOf(make([]int, len(counts)))
	for n, many := range counts {
		for k := 0; k < many; k++ {
			at := n*pagesOfBlock + k
			own := at * by % allPlaces
			d[n].Pages[k] = written(own/placesOfFile, own%placesOfFile, valueAtPlace(own), 400+at*31%allPlaces)
		}
	}
	return d
}

// someSteps are how far the places of pages that follow each other are apart: next to each other, in descending order, or in other files.
func someSteps() []int {
	return []int{1, allPlaces - 1, 7, 29}
}

// tableNaming returns a table that names some written pages of a device, each at its own place; of one place it names the last one.
func tableNaming(d []impl.Block, pages []int) impl.Table {
	all := allPages(d)
	numbers := noPages()
	for _, at := range pages {
		numbers[all[at].File*placesOfFile+all[at].Place] = at
	}
	return tableOf(numbers)
}

// writtenPages are the numbers of all written pages of a device.
func writtenPages(d []impl.Block) []int {
	all := allPages(d)
	return slices.DeleteFunc(numbersFromTo(0, len(all)-1), func(at int) bool { return !all[at].Full })
}

// tableNamingAll returns a table that names all written pages of a device with a place of their own.
func tableNamingAll(d []impl.Block) impl.Table {
	return tableNaming(d, writtenPages(d))
}

// pagesBeside are the written pages of all blocks but one.
func pagesBeside(d []impl.Block, n int) []int {
	return slices.DeleteFunc(writtenPages(d), func(at int) bool { return at/pagesOfBlock == n })
}

// pagesToMove reckons which pages of a block are moved: it looks for each whether the table has it.
func pagesToMove(x impl.Table, n int) []int {
	numbers := numbersOf(x)
	return slices.DeleteFunc(pagesFrom(n*pagesOfBlock, pagesOfBlock), func(at int) bool { return !slices.Contains(numbers, at) })
}

// roomForCold reckons where cold pages can be written, in order: on the free pages of the head for cold, and then on those of the fresh block. No block has more pages to move than the fresh one.
func roomForCold(d []impl.Block, h impl.Heads) []int {
	var room []int
	for _, n := range []int{h.Cold, freshByWear(d, h)} {
		if n != -1 {
			room = append(room, numbersFromTo(n*pagesOfBlock+countFull(d[n].Pages), (n+1)*pagesOfBlock-1)...)
		}
	}
	return room
}

// canBeCleaned reckons whether so many pages of a block can be moved into some room, and the block can be erased.
func canBeCleaned(c cleaning, many int, room int) bool {
	if slices.Contains(headList(c.h), c.n) || c.d[c.n].Wear == mostWear {
		return false
	}
	return many == 0 || many <= room && c.stamp+many <= mostStamp+1
}

// cleanedAtOnce reckons what there is after a cleaning with valid arguments: it finds room for all pages before it moves one.
func cleanedAtOnce(c cleaning) cleaned {
	from := pagesToMove(c.x, c.n)
	room := roomForCold(c.d, c.h)
	if !canBeCleaned(c, len(from), len(room)) {
		return asBefore(c)
	}
	after := cleaned{withBlock(c.d, c.n, blockWith(c.d[c.n].Wear+1, 0)), c.x, c.h, len(from), true}
	numbers := numbersOf(c.x)
	for k, at := range from {
		p := c.d[at/pagesOfBlock].Pages[at%pagesOfBlock]
		p.Stamp = c.stamp + k
		to := room[k]
		after.d[to/pagesOfBlock].Pages[to%pagesOfBlock] = p
		numbers = withNumber(numbers, slices.Index(numbers, at), to)
		after.h.Cold = to / pagesOfBlock
	}
	after.x = tableOf(numbers)
	return after
}

func expectClean(t *testing.T, c cleaning, after cleaned) {
	t.Helper()
	if got := clean(c); !sameCleaned(got, after) {
		t.Errorf("CleanBlock(%+v, %v, %+v, %d, %d) = %+v, not %+v", c.d, c.x, c.h, c.n, c.stamp, got, after)
	}
}

// expectAsBefore expects what there is if a cleaning cannot be done.
func expectAsBefore(t *testing.T, c cleaning) {
	t.Helper()
	expectClean(t, c, asBefore(c))
}

// expectNotCleaned expects what there is for arguments that are not valid.
func expectNotCleaned(t *testing.T, c cleaning) {
	t.Helper()
	expectClean(t, c, cleaned{})
}

// expectCleaned expects of valid arguments what chapter 14 says, and what promise 10 does.
func expectCleaned(t *testing.T, c cleaning) {
	t.Helper()
	expectClean(t, c, cleanedAtOnce(c))
	expectNothingLost(t, c)
}

// expectMoved expects that so many pages are moved.
func expectMoved(t *testing.T, c cleaning, moved int) {
	t.Helper()
	if got := clean(c); got.moved != moved || !got.done {
		t.Errorf("CleanBlock(%+v, %v, %+v, %d, %d) = %+v, not with %d moved pages", c.d, c.x, c.h, c.n, c.stamp, got, moved)
	}
	expectCleaned(t, c)
}

// expectNothingLost expects what promise 10 says, and that all is valid and nothing else has changed, whether the block could be cleaned or not.
func expectNothingLost(t *testing.T, c cleaning) {
	t.Helper()
	after := clean(c)
	expectDeviceValid(t, after.d, true)
	expectTableValid(t, after.x, true)
	expectHeadsValid(t, after.d, after.h, true)
	for file := 0; file < filesOfTable; file++ {
		before, _ := impl.FileValues(c.d, c.x, file)
		expectValues(t, after.d, after.x, file, before, true)
	}
	if !after.done {
		expectAsBefore(t, c)
		return
	}
	expectNext(t, after.d[c.n], 0)
	if after.d[c.n].Wear != c.d[c.n].Wear+1 || after.moved != impl.BlockCounts(c.d, c.x)[c.n] {
		t.Errorf("CleanBlock(%+v, %v, %+v, %d, %d) = %+v: other wear, or other moved pages", c.d, c.x, c.h, c.n, c.stamp, after)
	}
	expectNamedAgain(t, c, after)
	expectOthersKept(t, c, after)
}

// expectNamedAgain expects of every page that the table names that it is at its number, or, if it was in the block, that it is there again with the next stamp.
func expectNamedAgain(t *testing.T, c cleaning, after cleaned) {
	t.Helper()
	stamp := c.stamp
	for _, at := range impl.UsedPages(c.x) {
		p, _ := impl.ReadPage(c.d, at)
		to := impl.TableGet(after.x, p.File, p.Place)
		if at/pagesOfBlock == c.n {
			p.Stamp = stamp
			stamp++
		} else if to != at {
			t.Errorf("CleanBlock(%+v, %v, %+v, %d, %d) = %+v: the page %d is %d", c.d, c.x, c.h, c.n, c.stamp, after, at, to)
		}
		expectRead(t, after.d, to, p, true)
	}
	if len(impl.UsedPages(after.x)) != len(impl.UsedPages(c.x)) {
		t.Errorf("CleanBlock(%+v, %v, %+v, %d, %d) = %+v names other pages", c.d, c.x, c.h, c.n, c.stamp, after)
	}
}

// expectOthersKept expects that the heads for hot and warm are as before, that only as many pages as were moved are written in all other blocks, and that none of what was written there has changed.
func expectOthersKept(t *testing.T, c cleaning, after cleaned) {
	t.Helper()
	if after.h.Hot != c.h.Hot || after.h.Warm != c.h.Warm {
		t.Errorf("CleanBlock(%+v, %v, %+v, %d, %d) = %+v: other heads", c.d, c.x, c.h, c.n, c.stamp, after)
	}
	expectFree(t, after.d, impl.FreePages(c.d)+countFull(c.d[c.n].Pages)-after.moved)
	for n, b := range c.d {
		if n == c.n {
			continue
		}
		many := countFull(b.Pages)
		if after.d[n].Wear != b.Wear || !slices.Equal(after.d[n].Pages[:many], b.Pages[:many]) {
			t.Errorf("CleanBlock(%+v, %v, %+v, %d, %d) = %+v: another block %d", c.d, c.x, c.h, c.n, c.stamp, after, n)
		}
	}
}

// P10: cleaned blocks lose nothing.

func TestP10CleaningOfABlock(t *testing.T) {
	d := []impl.Block{
		{Wear: 7, Pages: []impl.Page{written(3, 1, 50, 20), written(0, 4, 60, 21), written(3, 1, 70, 22), written(7, 5, 9999, 23)}},
		{Wear: 2, Pages: []impl.Page{written(5, 0, 80, 24), {}, {}, {}}},
		{Wear: 4, Pages: []impl.Page{{}, {}, {}, {}}},
		{Wear: 3, Pages: []impl.Page{{}, {}, {}, {}}},
	}
	numbers := noPages()
	numbers[4] = 1
	numbers[3*placesOfFile+1] = 2
	numbers[5*placesOfFile] = 4
	numbers[7*placesOfFile+5] = 3
	// The page 0 is older than the page 2, and not moved; the block 3 was erased less often than the block 2.
	moved := []impl.Page{written(0, 4, 60, 900), written(3, 1, 70, 901), written(7, 5, 9999, 902)}
	after := slices.Clone(numbers)
	after[4] = 12
	after[3*placesOfFile+1] = 13
	after[7*placesOfFile+5] = 14
	empty := impl.Block{Wear: 8, Pages: make([]impl.Page, 4)}
	fresh := impl.Block{Wear: 3, Pages: append(slices.Clone(moved), impl.Page{})}
	for _, h := range []impl.Heads{noHeads(), headsAt(1, -1, -1), headsAt(2, 1, -1), headsAt(-1, 2, 3)} {
		c := cleaning{d, tableOf(numbers), h, 0, 900}
		expectClean(t, c, cleaned{[]impl.Block{empty, d[1], d[2], fresh}, tableOf(after), headsAt(h.Hot, h.Warm, 3), 3, true})
		expectCleaned(t, c)
	}
	// The block 1 is the head for cold: it has room for all three.
	after[4] = 5
	after[3*placesOfFile+1] = 6
	after[7*placesOfFile+5] = 7
	head := impl.Block{Wear: 2, Pages: append([]impl.Page{written(5, 0, 80, 24)}, moved...)}
	c := cleaning{d, tableOf(numbers), headsAt(-1, -1, 1), 0, 900}
	expectClean(t, c, cleaned{[]impl.Block{empty, head, d[2], d[3]}, tableOf(after), headsAt(-1, -1, 1), 3, true})
	expectCleaned(t, c)
}

// The head for cold has room for one page only: the other ones are in the fresh block, which is that head then.
func TestP10CleaningIntoTwoBlocks(t *testing.T) {
	d := []impl.Block{
		{Wear: 5, Pages: []impl.Page{{}, {}, {}, {}}},
		{Wear: 9, Pages: []impl.Page{written(2, 0, 10, 1), written(2, 1, 11, 2), written(2, 2, 12, 3), {}}},
		{Wear: 0, Pages: []impl.Page{written(4, 3, 20, 4), written(4, 2, 21, 5), written(1, 0, 22, 6), {}}},
	}
	x := impl.TableOf(d)
	after := withList(x, 4, []int{-1, -1, 0, 7, -1, -1})
	after = withList(after, 1, []int{1, -1, -1, -1, -1, -1})
	want := []impl.Block{
		{Wear: 5, Pages: []impl.Page{written(4, 2, 21, 78), written(1, 0, 22, 79), {}, {}}},
		{Wear: 9, Pages: []impl.Page{written(2, 0, 10, 1), written(2, 1, 11, 2), written(2, 2, 12, 3), written(4, 3, 20, 77)}},
		{Wear: 1, Pages: []impl.Page{{}, {}, {}, {}}},
	}
	expectClean(t, cleaning{d, x, headsAt(-1, -1, 1), 2, 77}, cleaned{want, after, headsAt(-1, -1, 0), 3, true})
	// Without a fresh block nothing is begun.
	expectAsBefore(t, cleaning{d, x, headsAt(-1, 0, 1), 2, 77})
	expectAsBefore(t, cleaning{d[1:], impl.TableOf(d[1:]), headsAt(-1, -1, 0), 1, 77})
}

// expectSetsMoved expects of all sets of the written pages of a block that they are moved, beside all pages of the other blocks, and beside none.
func expectSetsMoved(t *testing.T, d []impl.Block, h impl.Heads, n int) {
	t.Helper()
	many := countFull(d[n].Pages)
	for set := 0; set < powers(many); set++ {
		own := pagesOfSet(n*pagesOfBlock, many, set)
		for _, others := range [][]int{nil, pagesBeside(d, n)} {
			c := cleaning{d, tableNaming(d, slices.Concat(own, others)), h, n, 600}
			expectCleaned(t, c)
			if room := len(roomForCold(d, h)); len(own) <= room {
				expectMoved(t, c, len(own))
			} else {
				expectAsBefore(t, c)
			}
		}
	}
}

// powers is how many sets there are of so many numbers.
func powers(many int) int {
	sets := 1
	for n := 0; n < many; n++ {
		sets += sets
	}
	return sets
}

// The first, a middle and the last block of devices of all sizes, with none, some and all of its pages written, beside empty blocks: a device of one block has no room.
func TestP10AsManyPagesAreMovedAsAreUsed(t *testing.T) {
	for size := 1; size <= mostBlocks; size++ {
		for _, n := range blocksOfSize(size) {
			for many := 0; many <= pagesOfBlock; many++ {
				for _, by := range someSteps() {
					expectSetsMoved(t, placedDevice(sameButOne(size, 0, n, many), by), noHeads(), n)
				}
			}
		}
	}
}

// All other blocks are full but one, which is fresh.
func TestP10PagesAreMovedIntoTheOnlyFreshBlock(t *testing.T) {
	for size := 2; size <= mostBlocks; size++ {
		for _, n := range blocksOfSize(size) {
			for _, fresh := range slices.DeleteFunc(blocksOfSize(size), func(other int) bool { return other == n }) {
				counts := withNumber(slices.Repeat([]int{pagesOfBlock}, size), fresh, 0)
				for _, by := range someSteps() {
					expectSetsMoved(t, placedDevice(counts, by), noHeads(), n)
				}
			}
		}
	}
}

// The places of the pages of the block: of one file, of two and of four, in any order.
func TestP10PagesOfOneFileAndOfSeveralAreMoved(t *testing.T) {
	for _, own := range [][]fileAndPlace{
		{{3, 0}, {3, 1}, {3, 2}, {3, 3}},
		{{0, 5}, {0, 0}, {0, 4}, {0, 2}},
		{{7, 5}, {7, 4}, {7, 3}, {7, 2}},
		{{2, 1}, {6, 1}, {2, 0}, {6, 5}},
		{{7, 0}, {0, 0}, {7, 5}, {0, 5}},
		{{5, 3}, {1, 3}, {4, 3}, {0, 3}},
		{{0, 0}, {2, 5}, {4, 1}, {7, 3}},
	} {
		pages := make([]impl.Page, pagesOfBlock)
		for k, f := range own {
			pages[k] = written(f.file, f.place, 10*f.file+f.place, 30-k)
		}
		for n := 0; n < 3; n++ {
			d := splitDevice(pages, sameButOne(3, 0, n, pagesOfBlock))
			expectSetsMoved(t, d, noHeads(), n)
			expectSetsMoved(t, d, changedHead(noHeads(), cold, (n+1)%3), n)
		}
	}
}

// Of two pages of the same place the table names the older one, or the first or the second of two that are as old: that one is moved.
func TestP10ThePageThatTheTableNamesIsMoved(t *testing.T) {
	for _, stamps := range [][]int{{8, 9}, {9, 8}, {8, 8}} {
		d := splitDevice([]impl.Page{written(3, 2, 10, stamps[0]), written(3, 2, 20, stamps[1])}, []int{2, 0})
		for at := 0; at < 2; at++ {
			c := cleaning{d, tableNaming(d, []int{at}), noHeads(), 0, 50}
			expectMoved(t, c, 1)
			expectRead(t, clean(c).d, 4, written(3, 2, 10+10*at, 50), true)
		}
	}
}

// The same place has a page in another block, too, older or newer, which the table does not name: it stays, and is not named.
func TestP10PagesOfTheSamePlaceInOtherBlocksStay(t *testing.T) {
	for _, stamp := range []int{1, 50, 51, mostStamp} {
		d := splitDevice([]impl.Page{written(3, 2, 10, 30), written(3, 2, 20, stamp)}, []int{1, 1, 0})
		c := cleaning{d, tableNaming(d, []int{0}), noHeads(), 0, 50}
		expectMoved(t, c, 1)
		expectGet(t, clean(c).x, 3, 2, 8)
		expectRead(t, clean(c).d, 4, written(3, 2, 20, stamp), true)
		c.x = tableNaming(d, []int{4})
		expectMoved(t, c, 0)
		expectGet(t, clean(c).x, 3, 2, 4)
	}
}

// devicesAround are devices of so many blocks, with none to all pages of the block n written, and none, one or all of each other block.
func devicesAround(size int, n int) [][]impl.Block {
	var devices [][]impl.Block
	for many := 0; many <= pagesOfBlock; many++ {
		for _, others := range []int{0, 1, pagesOfBlock} {
			devices = append(devices, placedDevice(sameButOne(size, others, n, many), 1))
		}
	}
	return devices
}

// Blocks with nothing to move are erased all the same, whatever else is written, and with all other heads.
func TestP10BlocksWithoutUsedPagesAreErased(t *testing.T) {
	for size := 1; size <= mostBlocks; size++ {
		for _, n := range blocksOfSize(size) {
			for _, d := range devicesAround(size, n) {
				erased := withBlock(d, n, blockWith(3*n+1, 0))
				for _, x := range []impl.Table{tableOf(noPages()), tableNaming(d, pagesBeside(d, n))} {
					for _, h := range headsBeside(size, n) {
						c := cleaning{d, x, h, n, 600}
						expectClean(t, c, cleaned{erased, x, h, 0, true})
						expectCleaned(t, c)
					}
				}
			}
		}
	}
}

// headsBeside are valid heads of a device of so many blocks, none of them the block n.
func headsBeside(size int, n int) []impl.Heads {
	others := slices.DeleteFunc(blocksOfSize(size), func(other int) bool { return other == n })
	heads := headsFrom(append(others, -1))
	return slices.DeleteFunc(heads, func(h impl.Heads) bool { return !areHeads(size, h) })
}

func TestP10NewDevicesCanBeCleaned(t *testing.T) {
	for size := 1; size <= mostBlocks; size++ {
		d := impl.NewDevice(size)
		for n := range d {
			c := cleaning{d, impl.TableOf(d), noHeads(), n, 1}
			expectClean(t, c, cleaned{withBlock(d, n, blockWith(1, 0)), impl.TableOf(d), noHeads(), 0, true})
			expectCleaned(t, c)
		}
	}
}

// The head for cold has room for none to all of its pages, and there is a fresh block, or none: it is a head, written, or not there.
func TestP10PagesAreMovedIntoTheHeadForCold(t *testing.T) {
	for headPages := 0; headPages <= pagesOfBlock; headPages++ {
		for many := 0; many <= pagesOfBlock; many++ {
			for _, by := range someSteps() {
				for _, counts := range [][]int{{many, headPages, 0}, {many, headPages, 0, 0}, {many, headPages, 1}, {many, headPages}, {many, headPages, 4, 4, 0}} {
					d := placedDevice(counts, by)
					expectSetsMoved(t, d, headsAt(-1, -1, 1), 0)
					if last := len(d) - 1; last > 1 {
						expectSetsMoved(t, d, headsAt(-1, last, 1), 0)
						expectSetsMoved(t, d, headsAt(last, -1, 1), 0)
					}
				}
			}
		}
	}
}

// The block to clean lies before the head for cold and the fresh block, between them, and behind them, on devices of 3 and MaxBlocks blocks.
func TestP10TheHeadForColdMayBeAnyBlock(t *testing.T) {
	for _, size := range []int{3, mostBlocks} {
		for _, order := range [][]int{{0, 1, 2}, {0, 2, 1}, {1, 0, 2}, {1, 2, 0}, {2, 0, 1}, {2, 1, 0}} {
			places := blocksOfSize(size)
			n := places[order[0]]
			head := places[order[1]]
			fresh := places[order[2]]
			for headPages := 0; headPages <= pagesOfBlock; headPages++ {
				counts := slices.Repeat([]int{pagesOfBlock}, size)
				counts[head] = headPages
				counts[fresh] = 0
				d := placedDevice(counts, 7)
				expectSetsMoved(t, d, headsAt(-1, -1, head), n)
				expectSetsMoved(t, d, headsAt(-1, fresh, head), n)
			}
		}
	}
}

// expectCold expects the head for cold after a cleaning, and that the moved pages have some numbers, in order.
func expectCold(t *testing.T, c cleaning, head int, numbers []int) {
	t.Helper()
	after := clean(c)
	if after.h.Cold != head || !after.done {
		t.Errorf("CleanBlock(%+v, %v, %+v, %d, %d) = %+v, not with the head %d", c.d, c.x, c.h, c.n, c.stamp, after, head)
	}
	for k, at := range pagesToMove(c.x, c.n) {
		p := c.d[c.n].Pages[at%pagesOfBlock]
		expectGet(t, after.x, p.File, p.Place, numbers[k])
	}
	expectCleaned(t, c)
}

func TestP10MovedPagesLieInTheHeadForColdAndInTheFreshBlock(t *testing.T) {
	for _, by := range someSteps() {
		for headPages, numbers := range [][]int{{4, 5, 6, 7}, {5, 6, 7, 8}, {6, 7, 8, 9}, {7, 8, 9, 10}, {8, 9, 10, 11}} {
			head := 2
			if headPages == 0 {
				head = 1
			}
			d := placedDevice([]int{4, headPages, 0, 0}, by)
			expectCold(t, cleaning{d, tableNamingAll(d), headsAt(-1, -1, 1), 0, 600}, head, numbers)
			expectCold(t, cleaning{d, tableNamingAll(d), headsAt(3, -1, 1), 0, 600}, head, numbers)
		}
		// Only two pages are to be moved: the head stays while it has room for both.
		for headPages, numbers := range [][]int{{4, 5}, {5, 6}, {6, 7}, {7, 8}, {8, 9}} {
			head := 1
			if headPages > 2 {
				head = 2
			}
			d := placedDevice([]int{2, headPages, 0, 0}, by)
			expectCold(t, cleaning{d, tableNamingAll(d), headsAt(-1, 3, 1), 0, 600}, head, numbers)
		}
		// Without a head for cold, and with one for each other kind, the fresh block is that head.
		d := placedDevice([]int{0, 3, 4, 1, 0}, by)
		expectCold(t, cleaning{d, tableNamingAll(d), noHeads(), 2, 600}, 0, []int{0, 1, 2, 3})
		expectCold(t, cleaning{d, tableNamingAll(d), headsAt(1, 3, -1), 2, 600}, 0, []int{0, 1, 2, 3})
		expectCold(t, cleaning{d, tableNamingAll(d), headsAt(0, 3, -1), 2, 600}, 4, []int{16, 17, 18, 19})
		// Nothing is moved: the head stays, full or not, or there is none.
		for _, h := range []impl.Heads{noHeads(), headsAt(-1, -1, 1), headsAt(1, 3, 4), headsAt(0, -1, 4)} {
			expectCold(t, cleaning{d, tableNaming(d, pagesBeside(d, 2)), h, 2, 600}, h.Cold, nil)
		}
	}
}

// The fresh block is the one that was erased least often, the first one of several, and may be worn out.
func TestP10PagesAreMovedIntoTheLeastWornFreshBlock(t *testing.T) {
	for _, wears := range listsOf([]int{0, 1, mostWear}, 3) {
		for headPages := 2; headPages <= pagesOfBlock; headPages++ {
			for n := 0; n < 5; n++ {
				counts := sameButOne(5, 0, n, 3)
				head := (n + 2) % 5
				counts[head] = headPages
				d := placedDevice(counts, 7)
				for k, wear := range wears {
					d[(n+[]int{1, 3, 4}[k])%5].Wear = wear
				}
				expectSetsMoved(t, d, headsAt(-1, -1, head), n)
				expectSetsMoved(t, d, headsAt((n+1)%5, -1, head), n)
				expectSetsMoved(t, d, noHeads(), n)
			}
		}
	}
}

// Without a fresh block the room ends after the first, a middle or the last page, or there is none at all: all stays if it ends too early.
func TestP10WithoutRoomAllStays(t *testing.T) {
	for room := 0; room <= pagesOfBlock; room++ {
		for many := 0; many <= pagesOfBlock; many++ {
			for _, size := range []int{2, 3, mostBlocks} {
				for _, n := range blocksOfSize(size) {
					head := (n + 1) % size
					counts := sameButOne(size, pagesOfBlock, head, pagesOfBlock-room)
					for _, by := range someSteps() {
						d := placedDevice(counts, by)
						x := tableNaming(d, append(pagesFrom(n*pagesOfBlock, many), pagesBeside(d, n)...))
						c := cleaning{d, x, headsAt(-1, -1, head), n, 600}
						if many > room {
							expectAsBefore(t, c)
						} else {
							expectMoved(t, c, many)
						}
					}
				}
			}
		}
	}
}

// The only empty blocks are heads for hot and warm, or the head for cold is full, or there is none.
func TestP10EmptyHeadsOfOtherKindsAreNoRoom(t *testing.T) {
	d := placedDevice([]int{4, 0, 4, 0}, 7)
	for many := 1; many <= pagesOfBlock; many++ {
		x := tableNaming(d, pagesFrom(0, many))
		for _, h := range []impl.Heads{headsAt(1, 3, -1), headsAt(3, 1, -1), headsAt(1, 3, 2), headsAt(3, 1, 2)} {
			expectAsBefore(t, cleaning{d, x, h, 0, 600})
		}
		for _, h := range []impl.Heads{headsAt(1, 2, -1), headsAt(2, 1, -1), headsAt(1, -1, 2), headsAt(-1, 1, 2), headsAt(1, -1, 3)} {
			expectCold(t, cleaning{d, x, h, 0, 600}, 3, pagesFrom(12, many))
		}
	}
}

// A block of a device without another one has room for its pages nowhere, though some of its own pages are free.
func TestP10TheOnlyBlockHasNoRoomForItsPages(t *testing.T) {
	for many := 0; many <= pagesOfBlock; many++ {
		d := placedDevice([]int{many}, 7)
		for set := 0; set < powers(many); set++ {
			c := cleaning{d, tableNaming(d, pagesOfSet(0, many, set)), noHeads(), 0, 600}
			if set == 0 {
				expectMoved(t, c, 0)
			} else {
				expectAsBefore(t, c)
			}
		}
	}
}

// expectHeadStays expects that a block is not cleaned as the head of any kind, at stamps that would do, and at one that would not.
func expectHeadStays(t *testing.T, d []impl.Block, x impl.Table, n int) {
	t.Helper()
	for _, heat := range heatKinds() {
		for _, stamp := range []int{1, 600, mostStamp} {
			expectAsBefore(t, cleaning{d, x, changedHead(noHeads(), heat, n), n, stamp})
		}
	}
}

// The block has pages to move or none, beside blocks with room or without, and is worn out or not.
func TestP10HeadsAreNotCleaned(t *testing.T) {
	for _, size := range []int{1, 2, 3, mostBlocks} {
		for _, n := range blocksOfSize(size) {
			for _, d := range devicesAround(size, n) {
				for _, x := range []impl.Table{tableOf(noPages()), tableNamingAll(d)} {
					expectHeadStays(t, d, x, n)
					expectHeadStays(t, wornAt(d, n), x, n)
				}
			}
		}
	}
}

// There are other heads beside the block that is one, and beside one that is none.
func TestP10AmongThreeHeadsNoneIsCleaned(t *testing.T) {
	d := placedDevice([]int{2, 0, 3, 0, 1}, 7)
	for _, h := range headsFrom(numbersFromTo(-1, 4)) {
		if !areHeads(5, h) {
			continue
		}
		for n := range d {
			c := cleaning{d, tableNamingAll(d), h, n, 600}
			if slices.Contains(headList(h), n) {
				expectAsBefore(t, c)
			}
			expectCleaned(t, c)
		}
	}
}

func TestP10WornOutBlocksAreNotCleaned(t *testing.T) {
	for _, size := range []int{1, 2, mostBlocks} {
		for _, n := range blocksOfSize(size) {
			for many := 0; many <= pagesOfBlock; many++ {
				d := placedDevice(sameButOne(size, 0, n, many), 1)
				for _, x := range []impl.Table{tableOf(noPages()), tableNamingAll(d)} {
					for wear := 0; wear <= mostWear; wear++ {
						d[n].Wear = wear
						c := cleaning{d, x, noHeads(), n, 600}
						expectCleaned(t, c)
						if wear == mostWear {
							expectAsBefore(t, c)
						} else if size > 1 {
							expectMoved(t, c, len(pagesToMove(x, n)))
						}
					}
				}
			}
		}
	}
}

// All other blocks are worn out: they can be written still, and only the block itself is erased.
func TestP10BesideWornOutBlocksABlockIsCleaned(t *testing.T) {
	for n := 0; n < 3; n++ {
		for many := 0; many <= pagesOfBlock; many++ {
			d := placedDevice(sameButOne(3, 0, n, many), 7)
			for other := range d {
				if other != n {
					d = wornAt(d, other)
				}
			}
			for _, wear := range []int{0, mostWear - 1} {
				d[n].Wear = wear
				expectMoved(t, cleaning{d, tableNamingAll(d), noHeads(), n, 600}, many)
			}
		}
	}
}

func TestP10StampsOfMovedPages(t *testing.T) {
	for many := 0; many <= pagesOfBlock; many++ {
		for _, by := range someSteps() {
			d := placedDevice([]int{0, many, 0}, by)
			for _, h := range []impl.Heads{noHeads(), headsAt(-1, -1, 0)} {
				for _, stamp := range []int{1, 2, 400, 447, 448, 5000, mostStamp - 4} {
					expectMoved(t, cleaning{d, tableNamingAll(d), h, 1, stamp}, many)
				}
			}
		}
	}
	// Of the first stamp on, each is one more: 20 to 23 here, of pages that had 434, 417, 400 and 431.
	d := placedDevice([]int{0, 4}, 1)
	after := clean(cleaning{d, tableNamingAll(d), noHeads(), 1, 20})
	for k, p := range d[1].Pages {
		expectRead(t, after.d, k, written(p.File, p.Place, p.Value, 20+k), true)
	}
}

// The last moved page may have the greatest stamp there is, but no greater one; without pages to move every stamp will do.
func TestP10GreatestStamps(t *testing.T) {
	for many := 0; many <= pagesOfBlock; many++ {
		for stamp := mostStamp - 6; stamp <= mostStamp; stamp++ {
			for _, counts := range [][]int{{many, 0, 0}, {many, 2, 0}, {many, 3, 0}} {
				d := placedDevice(counts, 7)
				for _, h := range []impl.Heads{noHeads(), headsAt(-1, -1, 1)} {
					c := cleaning{d, tableNaming(d, pagesFrom(0, many)), h, 0, stamp}
					if many > 0 && stamp+many-1 > mostStamp {
						expectAsBefore(t, c)
					} else {
						expectMoved(t, c, many)
					}
				}
			}
		}
	}
}

func stampsOutOfBounds() []int {
	return []int{0, -1, -2, -mostStamp, mostStamp + 1, mostStamp + 2, 2 * mostStamp, math.MinInt, math.MinInt + 1, math.MaxInt - 1, math.MaxInt}
}

// Also if no page is moved, there is no room, or the block is a head or worn out.
func TestP10OtherStampsAreOtherArguments(t *testing.T) {
	for _, stamp := range stampsOutOfBounds() {
		for _, counts := range [][]int{{4, 0, 0}, {0, 4, 1}, {1, 4, 4}, {4, 4, 4}, {2, 2, 0}} {
			d := placedDevice(counts, 7)
			for n := range d {
				for _, d := range [][]impl.Block{d, wornAt(d, n)} {
					for _, x := range []impl.Table{tableOf(noPages()), tableNamingAll(d), impl.Table{}} {
						expectNotCleaned(t, cleaning{d, x, noHeads(), n, stamp})
						for _, heat := range heatKinds() {
							expectNotCleaned(t, cleaning{d, x, changedHead(noHeads(), heat, n), n, stamp})
						}
					}
				}
			}
		}
	}
}

// isOwnPage reckons whether a page of a device is written for the n-th of all places.
func isOwnPage(d []impl.Block, at int, n int) bool {
	all := allPages(d)
	return at < len(all) && all[at] == written(n/placesOfFile, n%placesOfFile, all[at].Value, all[at].Stamp)
}

// expectOnlyOwnPages expects that a block is cleaned, or stays if it is a head or worn out, exactly if a page is that of a place at which a table names it.
func expectOnlyOwnPages(t *testing.T, c cleaning, place int, at int) {
	t.Helper()
	stays := c
	stays.h = headsAt(-1, c.n, -1)
	worn := c
	worn.d = wornAt(c.d, c.n)
	if isOwnPage(c.d, at, place) {
		expectMoved(t, c, len(pagesToMove(c.x, c.n)))
		expectAsBefore(t, stays)
		expectAsBefore(t, worn)
		return
	}
	expectNotCleaned(t, c)
	expectNotCleaned(t, stays)
	expectNotCleaned(t, worn)
}

// All pages, also those that are not written or not there, at all places: in the block that is cleaned, or in another one.
func TestP10TablesNameOwnPagesOnly(t *testing.T) {
	for _, d := range [][]impl.Block{placedDevice([]int{3, 4, 0}, 1), placedDevice([]int{2, 3, 0}, 7), impl.NewDevice(3)} {
		for place := 0; place < allPlaces; place++ {
			for at := 0; at < mostPages; at++ {
				x := tableOf(withNumber(noPages(), place, at))
				for n := range d {
					expectOnlyOwnPages(t, cleaning{d, x, noHeads(), n, 600}, place, at)
				}
			}
		}
	}
}

// All other pages are right: only one is another one.
func TestP10WithOneOtherPageNothingIsCleaned(t *testing.T) {
	for _, by := range someSteps() {
		d := placedDevice([]int{3, 4, 0, 2}, by)
		all := tableNamingAll(d)
		for place := 0; place < allPlaces; place++ {
			for at := 0; at < mostPages; at++ {
				if slices.Contains(numbersOf(all), at) {
					continue
				}
				x := tableOf(withNumber(numbersOf(all), place, at))
				for _, n := range []int{0, 1, 3} {
					expectOnlyOwnPages(t, cleaning{d, x, noHeads(), n, 600}, place, at)
				}
			}
		}
	}
}

// Two pages are named each for the place of the other one: of one block, or of two.
func TestP10ExchangedPagesAreNotMoved(t *testing.T) {
	d := placedDevice([]int{3, 4, 0, 2}, 1)
	numbers := numbersOf(tableNamingAll(d))
	for first := 0; first < allPlaces; first++ {
		for second := 0; second < first; second++ {
			if numbers[first] == numbers[second] {
				continue
			}
			exchanged := withNumber(withNumber(numbers, first, numbers[second]), second, numbers[first])
			for n := range d {
				expectNotCleaned(t, cleaning{d, tableOf(exchanged), noHeads(), n, 600})
				expectNotCleaned(t, cleaning{d, tableOf(exchanged), headsAt(n, -1, -1), n, 600})
				expectNotCleaned(t, cleaning{wornAt(d, n), tableOf(exchanged), noHeads(), n, 600})
			}
		}
	}
}

// The table is right for the device of before: the pages that it names are not written on this one.
func TestP10TablesOfOtherDevicesAreNotCleaned(t *testing.T) {
	for size := 1; size <= mostBlocks; size++ {
		d := placedDevice(slices.Repeat([]int{3}, size), 1)
		x := tableNamingAll(d)
		for _, n := range blocksOfSize(size) {
			expectNotCleaned(t, cleaning{impl.NewDevice(size), x, noHeads(), n, 600})
			if size > 1 {
				expectNotCleaned(t, cleaning{d[:size-1], x, noHeads(), n % (size - 1), 600})
			}
		}
	}
}

func TestP10OtherBlocksAreNotCleaned(t *testing.T) {
	for size := 1; size <= mostBlocks; size++ {
		for _, many := range []int{0, 1, pagesOfBlock} {
			d := placedDevice(slices.Repeat([]int{many}, size), 1)
			for _, n := range append(numbersBeside(size), mostBlocks, -mostBlocks-1) {
				if n >= 0 && n < size {
					continue
				}
				for _, x := range []impl.Table{tableOf(noPages()), tableNamingAll(d)} {
					// Where there is no head, -1 is none of the heads that are not cleaned.
					for _, h := range []impl.Heads{noHeads(), headsAt(0, -1, -1), headsAt(-1, size-1, -1)} {
						for _, stamp := range []int{1, 600, mostStamp} {
							expectNotCleaned(t, cleaning{d, x, h, n, stamp})
						}
					}
				}
			}
		}
	}
}

func TestP10OtherDevicesAreNotCleaned(t *testing.T) {
	p := pageAt(0)
	own := tableOf(withNumber(noPages(), p.File*placesOfFile+p.Place, 0))
	for _, d := range invalidDevices() {
		for _, x := range []impl.Table{tableOf(noPages()), own, impl.Table{}} {
			for _, h := range []impl.Heads{noHeads(), headsAt(0, -1, -1), headsAt(0, 0, -1)} {
				for _, n := range []int{-1, 0, len(d) - 1, len(d)} {
					expectNotCleaned(t, cleaning{d, x, h, n, 600})
				}
			}
		}
		expectNotCleaned(t, cleaning{d, tableOf(noPages()), noHeads(), 0, 0})
	}
}

// But for the wrong block, which is the one to clean or another one, the device could be cleaned.
func TestP10WithAWrongBlockADeviceIsNotCleaned(t *testing.T) {
	for _, wrong := range invalidBlocks() {
		for _, size := range []int{1, 2, mostBlocks} {
			for _, at := range blocksOfSize(size) {
				d := withBlock(placedDevice(slices.Repeat([]int{2}, size), 1), at, wrong)
				for _, n := range []int{0, size - 1} {
					expectNotCleaned(t, cleaning{d, tableOf(noPages()), noHeads(), n, 600})
				}
			}
		}
	}
}

func TestP10WithOtherTablesNothingIsCleaned(t *testing.T) {
	devices := [][]impl.Block{impl.NewDevice(1), impl.NewDevice(3), deviceForNumbers(ascendingPages()), deviceForNumbers(shiftedPages(1))}
	for _, d := range devices {
		for _, x := range invalidTables() {
			for _, n := range []int{0, len(d) - 1} {
				expectNotCleaned(t, cleaning{d, x, noHeads(), n, 600})
			}
			expectNotCleaned(t, cleaning{d, x, headsAt(-1, 0, -1), 0, 600})
		}
		for _, x := range someInvalidTables() {
			expectNotCleaned(t, cleaning{d, x, headsAt(0, 0, -1), 0, 600})
			expectNotCleaned(t, cleaning{d, x, noHeads(), len(d), 600})
			expectNotCleaned(t, cleaning{d, x, noHeads(), 0, 0})
			expectNotCleaned(t, cleaning{wornAt(d, 0), x, noHeads(), 0, 600})
		}
	}
}

func TestP10WithOtherHeadsNothingIsCleaned(t *testing.T) {
	for size := 1; size <= mostBlocks; size++ {
		d := placedDevice(sameButOne(size, 2, size-1, 0), 1)
		for _, h := range append(headsOfSize(size, false), headsOutOfBounds(size)...) {
			for _, n := range []int{0, size - 1} {
				expectNotCleaned(t, cleaning{d, tableOf(noPages()), h, n, 600})
				expectNotCleaned(t, cleaning{d, tableNamingAll(d), h, n, 600})
				expectNotCleaned(t, cleaning{wornAt(d, n), tableOf(noPages()), h, n, 600})
			}
			expectNotCleaned(t, cleaning{d, impl.Table{}, h, 0, 600})
			expectNotCleaned(t, cleaning{d, tableOf(noPages()), h, -1, 600})
			expectNotCleaned(t, cleaning{d, tableOf(noPages()), h, size, mostStamp + 1})
		}
	}
}

// Each argument is right, or wrong in some ways: only where all are right something is cleaned.
func TestP10WithAnyOtherArgumentNothingIsCleaned(t *testing.T) {
	right := placedDevice([]int{2, 3, 0}, 7)
	devices := [][]impl.Block{right, nil, placedDevice(make([]int, mostBlocks+1), 7), withBlock(right, 2, impl.Block{}), withBlock(right, 0, blockWith(mostWear+1, 2)), withBlock(right, 1, blockWith(-1, 0))}
	tables := []impl.Table{tableNamingAll(right), {}, tableWithTwice(0, 0, 1), tableOf(withNumber(noPages(), 0, 11)), tableOf(withNumber(noPages(), 9, mostPages-1)), tableOf(withNumber(noPages(), 3, -2))}
	heads := []impl.Heads{headsAt(-1, 0, -1), headsAt(0, 0, -1), headsAt(-1, -1, 3), headsAt(-2, -1, -1), headsAt(math.MinInt, -1, math.MaxInt)}
	blocks := []int{1, -1, 3, math.MinInt, math.MaxInt}
	stamps := []int{600, 0, -1, mostStamp + 1, math.MinInt, math.MaxInt}
	for i, d := range devices {
		for j, x := range tables {
			for k, h := range heads {
				for l, n := range blocks {
					for m, stamp := range stamps {
						c := cleaning{d, x, h, n, stamp}
						if i+j+k+l+m == 0 {
							expectMoved(t, c, 3)
						} else {
							expectNotCleaned(t, c)
						}
					}
				}
			}
		}
	}
}

// All devices of one to three blocks with so many written pages, with all valid heads: the table names all sets of pages of the block.
func TestP10CleaningOfSmallDevices(t *testing.T) {
	for size := 1; size <= 3; size++ {
		for _, counts := range listsOf([]int{0, 1, 3, 4}, size) {
			d := placedDevice(counts, 7)
			for _, h := range headsOfSize(size, true) {
				for n, many := range counts {
					for set := 0; set < powers(many); set++ {
						own := pagesOfSet(n*pagesOfBlock, many, set)
						expectCleaned(t, cleaning{d, tableNaming(d, append(own, pagesBeside(d, n)...)), h, n, 10 + set})
					}
				}
			}
		}
	}
}

// Many devices of all sizes, with the tables that they have: some pages of the same place are older, and not named.
func TestP10CleaningOfAllDevices(t *testing.T) {
	for _, d := range append(devicesToCount(), smallDevices()...) {
		all := impl.TableOf(d)
		for _, x := range []impl.Table{all, tableOf(noPages()), tableOf(everySecond(numbersOf(all), 0)), tableOf(everySecond(numbersOf(all), 1))} {
			for _, h := range headsToClean(d) {
				for _, n := range blocksOfSize(len(d)) {
					expectCleaned(t, cleaning{d, x, h, n, 1001})
				}
			}
		}
	}
}

// Files were cut before, and their pages are old.
func TestP10PagesOfCutFilesAreNotMoved(t *testing.T) {
	for _, by := range someSteps() {
		d := placedDevice([]int{4, 4, 4, 4, 4, 4, 4, 4, 4, 4, 4, 0}, by)
		for file := 0; file < filesOfTable; file++ {
			for place := 0; place <= placesOfFile; place++ {
				x := impl.CutFile(tableNamingAll(d), file, place)
				for n := range d {
					c := cleaning{d, x, noHeads(), n, 600}
					expectMoved(t, c, impl.BlockCounts(d, x)[n])
				}
			}
		}
	}
}

// cleanInTurn cleans blocks one after the other, each with the stamps that follow, and expects of every one what chapter 14 says, and that all files keep the values that they had at first.
func cleanInTurn(t *testing.T, c cleaning, blocks []int) cleaning {
	t.Helper()
	first := c
	for _, n := range blocks {
		c.n = n
		expectCleaned(t, c)
		// A wrong answer is no device to go on with.
		if t.Failed() {
			t.FailNow()
		}
		after := clean(c)
		c = cleaning{after.d, after.x, after.h, n, c.stamp + after.moved}
		for file := 0; file < filesOfTable; file++ {
			values, _ := impl.FileValues(first.d, first.x, file)
			expectValues(t, c.d, c.x, file, values, true)
		}
	}
	return c
}

// All pages but those of one block are written and used: cleaned one after the other, the pages go round.
func TestP10BlocksCleanedOneAfterTheOther(t *testing.T) {
	for size := 2; size <= mostBlocks; size++ {
		for _, order := range []int{1, size - 1} {
			var blocks []int
			for k := 0; k < 4*size; k++ {
				blocks = append(blocks, k*order%size)
			}
			for _, fresh := range []int{0, size - 1} {
				d := placedDevice(sameButOne(size, pagesOfBlock, fresh, 0), 7)
				cleanInTurn(t, cleaning{d, tableNamingAll(d), noHeads(), 0, 1000}, blocks)
				cleanInTurn(t, cleaning{d, tableOf(everySecond(numbersOf(tableNamingAll(d)), 0)), noHeads(), 0, 1000}, blocks)
			}
		}
	}
}

// With few pages in each block the moved ones fill the head for cold, and then a fresh block, again and again.
func TestP10MovedPagesAreMovedAgain(t *testing.T) {
	for _, counts := range [][]int{{1, 1, 1, 0}, {3, 2, 1, 0}, {3, 3, 3, 0, 0}, {1, 2, 3, 4, 0}, {2, 2, 2, 2, 2, 0}} {
		for _, h := range []impl.Heads{noHeads(), headsAt(-1, -1, 1), headsAt(1, 0, 2)} {
			d := placedDevice(counts, 1)
			blocks := slices.Repeat(numbersFromTo(0, len(counts)-1), 6)
			last := cleanInTurn(t, cleaning{d, tableNamingAll(d), h, 0, 1000}, blocks)
			// No head was cleaned, but all blocks that were none are cleaned again.
			if allWear(last.d) < allWear(d)+6 {
				t.Errorf("%+v was cleaned %d times only", d, allWear(last.d)-allWear(d))
			}
		}
	}
}

// Without heads, the pages of two blocks go to and fro until one block is worn out, and can only be written; then the other one is erased, empty as it is, until it is worn out, too.
func TestP10BlocksAreCleanedUntilTheyAreWornOut(t *testing.T) {
	d := placedDevice([]int{4, 0}, 7)
	c := cleaning{d, tableNamingAll(d), noHeads(), 0, 1000}
	for k := 0; k < 2*mostWear+20; k++ {
		c.h = noHeads()
		c = cleanInTurn(t, c, []int{k % 2})
	}
	if c.d[0].Wear != mostWear || c.d[1].Wear != mostWear || countFull(c.d[1].Pages) != pagesOfBlock {
		t.Errorf("%+v: not worn out, or the pages are in the other block", c.d)
	}
	// The block 0 was cleaned with its four pages 98 times, and the block 1 97 times: it had been erased 3 times before.
	if c.stamp != 1000+4*(98+97) {
		t.Errorf("%+v: the next stamp is %d", c.d, c.stamp)
	}
}

// fileSystem is a device in use: its table, its heads, the last stamp, and the values that were written last.
type fileSystem struct {
	d      []impl.Block
	x      impl.Table
	h      impl.Heads
	last   int
	values []int
}

// write writes a value for warm, and reports whether there is room for it.
func (f *fileSystem) write(n int, value int) bool {
	after, h, at := impl.AppendPage(f.d, f.h, warm, written(n/placesOfFile, n%placesOfFile, value, f.last+1))
	if at == -1 {
		return false
	}
	f.d = after
	f.h = h
	f.x, _ = impl.TablePut(f.x, n/placesOfFile, n%placesOfFile, at)
	f.last++
	f.values[n] = value
	return true
}

// clean cleans a block, and reports whether that was possible.
func (f *fileSystem) clean(t *testing.T, n int) bool {
	t.Helper()
	c := cleaning{f.d, f.x, f.h, n, f.last + 1}
	expectCleaned(t, c)
	after := clean(c)
	f.d = after.d
	f.x = after.x
	f.h = after.h
	f.last += after.moved
	return after.done
}

// expectLastValues expects that the table has the newest pages, and that their values were written last.
func (f *fileSystem) expectLastValues(t *testing.T) {
	t.Helper()
	expectTableOf(t, f.d, f.x)
	for n, value := range f.values {
		p, full := impl.ReadPage(f.d, impl.TableGet(f.x, n/placesOfFile, n%placesOfFile))
		if full != (value != -1) || full && p.Value != value {
			t.Errorf("%+v: %+v instead of %d", f, p, value)
		}
	}
}

// useDevice writes values again and again, to some places more often than to others, and cleans victims where fewer pages than two blocks have are free; it returns how often so many pages were moved.
func useDevice(t *testing.T, size int, places int) []int {
	t.Helper()
	f := &fileSystem{impl.NewDevice(size), tableOf(noPages()), noHeads(), 0, noPages()}
	moves := make([]int, pagesOfBlock+1)
	for k := 0; k < 40*size; k++ {
		// What is left of squares is not evenly spread: some places come more often.
		place := (k*k*13 + k/5) % places * 11 % allPlaces
		if !f.write(place, (k*577+3)%10000) {
			t.Fatalf("%+v: no room for the write %d", f, k)
		}
		for impl.FreePages(f.d) < 2*pagesOfBlock {
			last := f.last
			if !f.clean(t, impl.GreedyVictim(f.d, f.x, f.h)) {
				t.Fatalf("%+v: the victim could not be cleaned", f)
			}
			moves[f.last-last]++
		}
		f.expectLastValues(t)
	}
	return moves
}

func TestP10VictimsAreCleanedWhileADeviceIsWritten(t *testing.T) {
	for _, size := range []int{5, 8, mostBlocks} {
		// With few places there are blocks without used pages; with many there are none, or few.
		if moves := useDevice(t, size, 3); moves[0] == 0 {
			t.Errorf("%d blocks: none was cleaned without moved pages, but %v with none to four", size, moves)
		}
		if moves := useDevice(t, size, 2*size); moves[1] == 0 || moves[2] == 0 {
			t.Errorf("%d blocks: none was cleaned with one and with two moved pages, but %v with none to four", size, moves)
		}
	}
}

// What is given and what is returned share no memory.

// cleanDeviceCalls are calls with the table of the device, or with one that names nothing, or with none: the block is cleaned, or it stays, or the arguments are not valid.
func cleanDeviceCalls() []deviceCall {
	tables := []func(d []impl.Block) impl.Table{
		impl.TableOf,
		func(d []impl.Block) impl.Table { return tableOf(noPages()) },
		func(d []impl.Block) impl.Table { return tableOf(shiftedPages(29)) },
		func(d []impl.Block) impl.Table { return impl.Table{} },
	}
	var calls []deviceCall
	for _, table := range tables {
		for _, place := range []string{"before", "first", "last", "behind"} {
			for _, h := range []impl.Heads{noHeads(), headsAt(0, -1, -1), headsAt(-1, -1, 1), headsAt(1, 1, -1)} {
				for _, stamp := range []int{0, 1001, mostStamp} {
					calls = append(calls, deviceCall{"CleanBlock " + place, func(d []impl.Block) []impl.Block {
						after, _, _, _, _ := impl.CleanBlock(d, table(d), h, blockAt(d, place), stamp)
						return after
					}})
				}
			}
		}
	}
	return calls
}

func TestDevicesGivenForCleaningAreNotWrittenTo(t *testing.T) {
	for _, c := range cleanDeviceCalls() {
		for _, d := range devicesInMemory() {
			expectGivenNotWritten(t, c, d)
		}
	}
}

func TestCleanedDevicesShareNoMemory(t *testing.T) {
	for _, c := range cleanDeviceCalls() {
		for _, d := range devicesInMemory() {
			expectNewMemory(t, c, d)
			expectBlocksApart(t, c.name, c.call(d))
		}
	}
}

// devicesForTables are devices for tables of pages at ascending places: with one fresh block, with a block of two pages, too, and full; and others.
func devicesForTables() [][]impl.Block {
	all := slices.Repeat([]int{pagesOfBlock}, mostBlocks)
	return [][]impl.Block{
		placedDevice(withNumber(all, 5, 0), 1),
		placedDevice(withNumber(withNumber(all, 5, 0), 0, 2), 1),
		placedDevice(all, 1),
		impl.NewDevice(3),
		nil,
	}
}

// tablesForCleaning are tables that name all pages of a device that is not full, some, one or none, and those of the tests of chapter 7.
func tablesForCleaning() []impl.Table {
	var tables []impl.Table
	for _, d := range devicesForTables()[:2] {
		numbers := numbersOf(tableNamingAll(d))
		for _, other := range [][]int{numbers, everySecond(numbers, 0), everySecond(numbers, 1), withNumber(numbers, allPlaces-1, -1)} {
			tables = append(tables, tableOf(other))
		}
	}
	return append(tables, tablesInMemory()...)
}

// cleanTableCalls are calls with blocks of all these devices, which are cleaned, or stay, or with arguments that are not valid.
func cleanTableCalls() []tableCall {
	var calls []tableCall
	for _, d := range devicesForTables() {
		for _, h := range []impl.Heads{noHeads(), headsAt(-1, 0, -1), headsAt(-1, -1, 0), headsAt(1, 1, -1)} {
			for _, n := range []int{-1, 0, 5, mostBlocks - 1} {
				for _, stamp := range []int{0, 1001, mostStamp} {
					calls = append(calls, tableCall{"CleanBlock", func(x impl.Table) impl.Table {
						_, after, _, _, _ := impl.CleanBlock(d, x, h, n, stamp)
						return after
					}})
				}
			}
		}
	}
	return calls
}

func TestTablesGivenForCleaningAreNotWrittenTo(t *testing.T) {
	for _, c := range cleanTableCalls() {
		for _, x := range tablesForCleaning() {
			expectTableNotWritten(t, c, x)
		}
	}
}

func TestTablesOfCleanedDevicesShareNoMemory(t *testing.T) {
	for _, c := range cleanTableCalls() {
		for _, x := range tablesForCleaning() {
			expectNewTable(t, c, x)
			expectListsApart(t, c.name, c.call(x))
		}
	}
}

// A device may be given whose blocks share their pages: only one of them is cleaned, and what is returned does not share them.
func TestBlocksGivenForCleaningMayShareMemory(t *testing.T) {
	for size := 1; size < mostBlocks; size++ {
		for many := 0; many <= pagesOfBlock; many++ {
			shared := append(slices.Repeat([]impl.Block{blockWith(5, many)}, size), blockWith(2, 0))
			for n := 0; n < size; n++ {
				for _, pages := range [][]int{nil, pagesFrom(n*pagesOfBlock, many), pagesFrom(0, many), pagesFrom((size-1)*pagesOfBlock, many)} {
					for _, h := range []impl.Heads{noHeads(), headsAt(-1, -1, (n+1)%size)} {
						c := cleaning{shared, tableNaming(shared, pages), h, n, 600}
						expectCleaned(t, c)
						expectBlocksApart(t, "CleanBlock", clean(c).d)
					}
				}
			}
		}
	}
}

// A table may be given whose lists share their numbers, if all are -1: what is returned must not do so.
func TestListsGivenForCleaningMayShareMemory(t *testing.T) {
	shared := impl.Table{At: slices.Repeat([][]int{slices.Repeat([]int{-1}, placesOfFile)}, filesOfTable)}
	for _, d := range devicesToCount() {
		for _, h := range headsToClean(d) {
			for _, n := range blocksOfSize(len(d)) {
				c := cleaning{d, shared, h, n, 600}
				expectCleaned(t, c)
				expectListsApart(t, "CleanBlock", clean(c).x)
			}
		}
	}
}
