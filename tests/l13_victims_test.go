package tests

import (
	"math"
	"slices"
	"testing"

	"loop.example/flashfiles/impl"
)

const mostStamp = 1000000

// stampedBlock returns a block whose first pages were written with some stamps, all of them for the same file and place.
func stampedBlock(stamps []int) impl.Block {
	b := blockWith(5, 0)
	for n, stamp := range stamps {
		b.Pages[n] = written(3, 2, 45, stamp)
	}
	return b
}

// stampedDevice returns a device with a block for each list of stamps.
func stampedDevice(lists [][]int) []impl.Block {
	var d []impl.Block
	for _, stamps := range lists {
		d = append(d, stampedBlock(stamps))
	}
	return d
}

// writtenUntil returns a device with a full block for each stamp, which is that of all its pages.
func writtenUntil(stamps []int) []impl.Block {
	var lists [][]int
	for _, stamp := range stamps {
		lists = append(lists, slices.Repeat([]int{stamp}, pagesOfBlock))
	}
	return stampedDevice(lists)
}

// fullDevice returns a device of so many blocks with all pages written.
func fullDevice(size int) []impl.Block {
	return deviceOf(slices.Repeat([]int{pagesOfBlock}, size))
}

// tableWithUsed returns a table that names so many pages of each block, the first ones.
func tableWithUsed(used []int) impl.Table {
	return tableWithPages(firstPages(used), 0, 1)
}

// tablesWithUsed are tables that name so many pages of each block: the first ones, or the last ones, at several places.
func tablesWithUsed(used []int) []impl.Table {
	return append(tablesWithPages(firstPages(used)), tablesWithPages(lastPages(used))...)
}

// firstPages are so many pages of each block, the first ones.
func firstPages(used []int) []int {
	var pages []int
	for n, many := range used {
		pages = append(pages, pagesFrom(n*pagesOfBlock, many)...)
	}
	return pages
}

// lastPages are so many pages of each block, the last ones.
func lastPages(used []int) []int {
	var pages []int
	for n, many := range used {
		pages = append(pages, pagesFrom((n+1)*pagesOfBlock-many, many)...)
	}
	return pages
}

// toClean is what the tests reckon of a block that may be cleaned: its number, how many of its pages are used, and its greatest Stamp.
type toClean struct{ n, used, last int }

// toCleanByLooking reckons which blocks may be cleaned.
func toCleanByLooking(d []impl.Block, x impl.Table, h impl.Heads) []toClean {
	counts := countsByLooking(d, x)
	var blocks []toClean
	for n, b := range d {
		if countFull(b.Pages) == 4 && counts[n] != 4 && !slices.Contains(headList(h), n) {
			blocks = append(blocks, toClean{n, counts[n], greatestStamp(b)})
		}
	}
	return blocks
}

// greatestStamp reckons the greatest Stamp of a full block: it sorts all that there are.
func greatestStamp(b impl.Block) int {
	var stamps []int
	for _, p := range b.Pages {
		stamps = append(stamps, p.Stamp)
	}
	slices.Sort(stamps)
	return stamps[len(stamps)-1]
}

// scoreByParts reckons a score for every number of used pages in another way, none of which divides a multiple.
func scoreByParts(used int, age int) int {
	switch used {
	case 0:
		return age + age + age + age
	case 1:
		return age + age/2
	case 2:
		return age - (age+2)/3
	case 3:
		return age / 4
	default:
		return 0
	}
}

// scoreOf reckons the score of a block at a time.
func scoreOf(b toClean, now int) int {
	return scoreByParts(b.used, max(now-b.last, 0))
}

// greedyBySorting reckons the greedy victim: it sorts all blocks that may be cleaned.
func greedyBySorting(blocks []toClean) int {
	if len(blocks) == 0 {
		return -1
	}
	sorted := slices.Clone(blocks)
	slices.SortStableFunc(sorted, func(a toClean, b toClean) int { return a.used - b.used })
	return sorted[0].n
}

// bestBySorting reckons the best victim: it sorts all blocks that may be cleaned.
func bestBySorting(blocks []toClean, now int) int {
	if len(blocks) == 0 {
		return -1
	}
	sorted := slices.Clone(blocks)
	slices.SortStableFunc(sorted, func(a toClean, b toClean) int { return scoreOf(b, now) - scoreOf(a, now) })
	return sorted[0].n
}

// someTimes are valid times: before all writes, at the first one, at ones of the devices of the tests, and at the last ones there can be.
func someTimes() []int {
	return []int{0, 1, 970, 1000, 5000, mostStamp - 1, mostStamp}
}

func timesOutOfBounds() []int {
	return []int{-1, -2, -mostStamp, mostStamp + 1, mostStamp + 2, 2 * mostStamp, math.MinInt, math.MaxInt}
}

func expectGreedy(t *testing.T, d []impl.Block, x impl.Table, h impl.Heads, n int) {
	t.Helper()
	if got := impl.GreedyVictim(d, x, h); got != n {
		t.Errorf("GreedyVictim(%+v, %v, %+v) = %d, not %d", d, x, h, got, n)
	}
}

func expectScore(t *testing.T, used int, age int, score int) {
	t.Helper()
	if got := impl.VictimScore(used, age); got != score {
		t.Errorf("VictimScore(%d, %d) = %d, not %d", used, age, got, score)
	}
}

func expectBest(t *testing.T, d []impl.Block, x impl.Table, h impl.Heads, now int, n int) {
	t.Helper()
	if got := impl.BestVictim(d, x, h, now); got != n {
		t.Errorf("BestVictim(%+v, %v, %+v, %d) = %d, not %d", d, x, h, now, got, n)
	}
}

// expectVictims expects of a valid device, table and heads what chapter 13 says, and what promises 69 and 71 do.
func expectVictims(t *testing.T, d []impl.Block, x impl.Table, h impl.Heads) {
	t.Helper()
	expectVictimsAt(t, d, x, h, someTimes())
}

// expectVictimsAt is expectVictims at some times.
func expectVictimsAt(t *testing.T, d []impl.Block, x impl.Table, h impl.Heads, times []int) {
	t.Helper()
	blocks := toCleanByLooking(d, x, h)
	expectGreedy(t, d, x, h, greedyBySorting(blocks))
	expectFullOfOldPages(t, d, x, h)
	for _, now := range times {
		expectBest(t, d, x, h, now, bestBySorting(blocks, now))
		expectBestIsVictim(t, d, x, h, now)
	}
}

// expectFullOfOldPages expects what promise 69 says.
func expectFullOfOldPages(t *testing.T, d []impl.Block, x impl.Table, h impl.Heads) {
	t.Helper()
	victim := impl.GreedyVictim(d, x, h)
	counts := impl.BlockCounts(d, x)
	if victim != -1 && !mayBeCleaned(d, counts, h, victim) {
		t.Errorf("GreedyVictim(%+v, %v, %+v) = %d, which may not be cleaned", d, x, h, victim)
	}
	for n := range d {
		if mayBeCleaned(d, counts, h, n) && (victim == -1 || counts[n] < counts[victim]) {
			t.Errorf("GreedyVictim(%+v, %v, %+v) = %d, but %d has fewer used pages", d, x, h, victim, n)
		}
	}
}

// mayBeCleaned reports whether all pages of a block are written, not all are used, and it is no head.
func mayBeCleaned(d []impl.Block, counts []int, h impl.Heads, n int) bool {
	return countFull(d[n].Pages) == pagesOfBlock && counts[n] < pagesOfBlock && !slices.Contains(headList(h), n)
}

// expectBestIsVictim expects what promise 71 says.
func expectBestIsVictim(t *testing.T, d []impl.Block, x impl.Table, h impl.Heads, now int) {
	t.Helper()
	best := impl.BestVictim(d, x, h, now)
	greedy := impl.GreedyVictim(d, x, h)
	if (best == -1) != (greedy == -1) {
		t.Errorf("BestVictim(%+v, %v, %+v, %d) = %d, but GreedyVictim is %d", d, x, h, now, best, greedy)
	}
	if best != -1 && !mayBeCleaned(d, impl.BlockCounts(d, x), h, best) {
		t.Errorf("BestVictim(%+v, %v, %+v, %d) = %d, which may not be cleaned", d, x, h, now, best)
	}
}

// expectOnlyVictim expects that a block is told at all times, or -1 for none.
func expectOnlyVictim(t *testing.T, d []impl.Block, x impl.Table, h impl.Heads, n int) {
	t.Helper()
	expectGreedy(t, d, x, h, n)
	for _, now := range someTimes() {
		expectBest(t, d, x, h, now, n)
	}
}

// expectNoVictims expects what there is for arguments that are not valid, at times that are valid and at others.
func expectNoVictims(t *testing.T, d []impl.Block, x impl.Table, h impl.Heads) {
	t.Helper()
	expectGreedy(t, d, x, h, -1)
	for _, now := range []int{-1, 0, 1, 2000, mostStamp, mostStamp + 1} {
		expectBest(t, d, x, h, now, -1)
	}
}

// P69: victims are full of old pages.

func TestP69VictimsOfSomeDevices(t *testing.T) {
	d := deviceOf([]int{4, 4, 4, 3, 0, 4})
	x := tableWithUsed([]int{3, 1, 2, 0, 0, 1})
	expectGreedy(t, d, x, noHeads(), 1)
	// The blocks 1 and 5 have as few used pages: without the first one the other one is taken.
	expectGreedy(t, d, x, headsAt(1, -1, -1), 5)
	expectGreedy(t, d, x, headsAt(-1, 5, -1), 1)
	expectGreedy(t, d, x, headsAt(5, -1, 1), 2)
	expectGreedy(t, d, x, headsAt(2, 5, 1), 0)
	// The blocks 3 and 4 have free pages: they are never taken, heads or not.
	expectGreedy(t, d, x, headsAt(3, 4, -1), 1)
	expectGreedy(t, d, tableWithUsed([]int{4, 4, 4, 0, 0, 4}), noHeads(), -1)
	expectGreedy(t, d, tableWithUsed([]int{4, 4, 4, 0, 0, 3}), noHeads(), 5)
	expectGreedy(t, d, tableWithUsed([]int{4, 4, 4, 0, 0, 3}), headsAt(-1, -1, 5), -1)
	expectGreedy(t, d, tableOf(noPages()), noHeads(), 0)
	expectGreedy(t, d, tableOf(noPages()), headsAt(0, 1, 2), 5)
	expectGreedy(t, d, tableOf(ascendingPages()), noHeads(), -1)
}

func TestP69DevicesWithoutFullBlocksHaveNoVictims(t *testing.T) {
	for size := 1; size <= mostBlocks; size++ {
		for many := 0; many < pagesOfBlock; many++ {
			d := deviceOf(slices.Repeat([]int{many}, size))
			for _, x := range tablesToCount() {
				expectOnlyVictim(t, d, x, noHeads(), -1)
			}
		}
	}
}

func TestP69DevicesWithoutOldPagesHaveNoVictims(t *testing.T) {
	for _, d := range devicesToCount() {
		for _, x := range tablesWithPages(ascendingPages()) {
			expectOnlyVictim(t, d, x, noHeads(), -1)
		}
	}
}

// othersBeside are how many pages of all other blocks are written, and how many of these are used, such that none of them may be cleaned.
func othersBeside() [][]int {
	return [][]int{{0, 0}, {1, 0}, {3, 0}, {3, 3}, {4, 4}}
}

// In one block all sets of its pages are used, at all numbers of written pages: no other block may be cleaned.
func TestP69OneFullBlockIsTheVictimIfNotAllOfItIsUsed(t *testing.T) {
	for _, size := range []int{1, 2, 3, mostBlocks} {
		for n := 0; n < size; n++ {
			for _, other := range othersBeside() {
				for many := 0; many <= pagesOfBlock; many++ {
					d := deviceOf(sameButOne(size, other[0], n, many))
					used := firstPages(sameButOne(size, other[1], n, 0))
					for set := 0; set < 16; set++ {
						victim := -1
						if many == 4 && set != 15 {
							victim = n
						}
						pages := append(slices.Clone(used), pagesOfSet(n*pagesOfBlock, pagesOfBlock, set)...)
						expectOnlyVictim(t, d, tableWithPages(pages, 20, 29), noHeads(), victim)
					}
				}
			}
		}
	}
}

func TestP69AHeadIsNoVictim(t *testing.T) {
	for size := 1; size <= mostBlocks; size++ {
		d := fullDevice(size)
		for n := range d {
			for _, heat := range heatKinds() {
				head := changedHead(noHeads(), heat, n)
				// All pages of the others are used, or all but one.
				for _, x := range tablesWithUsed(sameButOne(size, pagesOfBlock, n, 0)) {
					expectOnlyVictim(t, d, x, noHeads(), n)
					expectOnlyVictim(t, d, x, head, -1)
				}
				for _, x := range tablesWithUsed(sameButOne(size, pagesOfBlock-1, n, 0)) {
					expectGreedy(t, d, x, noHeads(), n)
					expectGreedy(t, d, x, head, firstBeside(size, n))
					expectVictims(t, d, x, head)
				}
			}
		}
	}
}

// firstBeside returns the first one of so many blocks that is not the block n; -1 if there is none.
func firstBeside(size int, n int) int {
	if size == 1 {
		return -1
	}
	if n == 0 {
		return 1
	}
	return 0
}

// Every block of the device is full; only one may be cleaned, or it and the heads.
func TestP69AllHeadsOfAFullDevice(t *testing.T) {
	for _, size := range []int{1, 2, 3, 4, mostBlocks} {
		d := fullDevice(size)
		rising := make([]int, size)
		falling := make([]int, size)
		for n := range d {
			rising[n] = n * (pagesOfBlock - 1) / mostBlocks
			falling[size-1-n] = rising[n]
		}
		for _, h := range headsFrom(numbersFromTo(-1, size-1)) {
			if !areHeads(size, h) {
				continue
			}
			for _, used := range [][]int{rising, falling, make([]int, size), sameButOne(size, pagesOfBlock, size/2, 2)} {
				expectVictims(t, d, tableWithUsed(used), h)
			}
		}
	}
}

func TestP69HeadsOfOtherBlocksDoNotMatter(t *testing.T) {
	for size := 2; size <= mostBlocks; size++ {
		for n := 0; n < size; n++ {
			d := deviceOf(sameButOne(size, 2, n, pagesOfBlock))
			for _, h := range headsFrom([]int{-1, firstBeside(size, n), size - 1}) {
				if areHeads(size, h) && !slices.Contains(headList(h), n) {
					expectOnlyVictim(t, d, tableOf(noPages()), h, n)
				}
			}
		}
	}
}

// In all sets of blocks, as few pages are used; in the others more are, or all.
func TestP69OfBlocksWithAsFewUsedPagesTheFirstIsTaken(t *testing.T) {
	d := fullDevice(mostBlocks)
	for few := 0; few < pagesOfBlock; few++ {
		for more := few + 1; more <= pagesOfBlock; more++ {
			for set := 1; set < 4096; set++ {
				used := slices.Repeat([]int{more}, mostBlocks)
				for n := range used {
					if hasByHalving(set, n) {
						used[n] = few
					}
				}
				expectGreedy(t, d, tableWithUsed(used), noHeads(), slices.Index(used, few))
			}
		}
	}
}

func TestP69OfBlocksThatAreAllTheSameTheFirstIsTaken(t *testing.T) {
	for size := 1; size <= mostBlocks; size++ {
		same := writtenUntil(slices.Repeat([]int{500}, size))
		for used := 0; used < pagesOfBlock; used++ {
			for _, x := range tablesWithUsed(slices.Repeat([]int{used}, size)) {
				expectGreedy(t, fullDevice(size), x, noHeads(), 0)
				expectOnlyVictim(t, same, x, noHeads(), 0)
			}
		}
		for _, x := range tablesWithUsed(slices.Repeat([]int{pagesOfBlock}, size)) {
			expectOnlyVictim(t, same, x, noHeads(), -1)
		}
	}
}

// The first, a middle or the last block has the fewest used pages, or is the only one that may be cleaned.
func TestP69TheOnlyOneWithTheFewestUsedPagesIsTaken(t *testing.T) {
	for size := 1; size <= mostBlocks; size++ {
		for n := 0; n < size; n++ {
			for few := 0; few < pagesOfBlock; few++ {
				for more := few + 1; more <= pagesOfBlock; more++ {
					x := tableWithUsed(sameButOne(size, more, n, few))
					expectGreedy(t, fullDevice(size), x, noHeads(), n)
					expectVictims(t, fullDevice(size), x, noHeads())
				}
				x := tableWithUsed(sameButOne(size, pagesOfBlock, n, few))
				expectOnlyVictim(t, fullDevice(size), x, noHeads(), n)
			}
		}
	}
}

// How worn a block is does not matter for the victim, though a worn out one cannot be erased.
func TestP69WornBlocksAreVictims(t *testing.T) {
	for _, wear := range someWear() {
		for n := 0; n < 3; n++ {
			d := wornBlocks(withNumber([]int{7, 7, 7}, n, wear), []int{4, 4, 4})
			expectGreedy(t, d, tableWithUsed(sameButOne(3, 2, n, 1)), noHeads(), n)
			expectOnlyVictim(t, d, tableWithUsed(sameButOne(3, 4, n, 1)), noHeads(), n)
			expectVictims(t, d, tableWithUsed([]int{2, 2, 2}), noHeads())
		}
	}
}

// The table names all pages that are not written, and all that the device does not have.
func TestP69PagesThatAreNotWrittenAreNotUsed(t *testing.T) {
	for size := 1; size <= mostBlocks; size++ {
		for _, counts := range countsOf(size) {
			d := deviceOf(counts)
			var pages []int
			for n, many := range counts {
				pages = append(pages, numbersFromTo(n*pagesOfBlock+many, n*pagesOfBlock+3)...)
			}
			pages = append(pages, numbersFromTo(size*pagesOfBlock, mostPages-1)...)
			for _, x := range tablesWithPages(pages) {
				expectGreedy(t, d, x, noHeads(), slices.Index(counts, pagesOfBlock))
				expectVictims(t, d, x, noHeads())
			}
		}
	}
}

// Every page of the device has the file 3 and the place 2: it is used at whatever place the table names it.
func TestP69PagesOfOtherFilesAndPlacesAreUsed(t *testing.T) {
	d := writtenUntil([]int{67, 67})
	for set := 0; set < 256; set++ {
		for _, x := range tablesWithPages(pagesOfSet(0, 2*pagesOfBlock, set)) {
			expectVictims(t, d, x, noHeads())
		}
	}
	for _, x := range tablesWithPages(pagesFrom(0, 7)) {
		expectOnlyVictim(t, d, x, noHeads(), 1)
	}
	for _, x := range tablesWithPages(pagesFrom(1, 7)) {
		expectOnlyVictim(t, d, x, noHeads(), 0)
	}
	for _, x := range tablesWithPages(pagesFrom(0, 8)) {
		expectOnlyVictim(t, d, x, noHeads(), -1)
	}
}

// All numbers of used pages of three blocks, full or not, with all heads.
func TestP69VictimsOfSmallDevices(t *testing.T) {
	for size := 1; size <= 3; size++ {
		for _, counts := range listsOf([]int{0, 3, 4}, size) {
			d := deviceOf(counts)
			for _, used := range listsOf([]int{0, 1, 3, 4}, size) {
				for _, h := range headsOfSize(size, true) {
					expectVictimsAt(t, d, tableWithUsed(used), h, []int{0, 995, mostStamp})
				}
			}
		}
	}
}

// headsToClean are valid heads of a device: none, of one block, and of three where it has as many.
func headsToClean(d []impl.Block) []impl.Heads {
	last := len(d) - 1
	heads := []impl.Heads{noHeads(), headsAt(0, -1, -1), headsAt(-1, last/2, -1), headsAt(-1, -1, last)}
	if last >= 2 {
		heads = append(heads, headsAt(1, last, 0))
	}
	return heads
}

func TestP69VictimsOfAllDevicesAndTables(t *testing.T) {
	for _, d := range devicesToCount() {
		for _, x := range append(tablesToCount(), impl.TableOf(d)) {
			expectVictimsAt(t, d, x, noHeads(), []int{0, 990, mostStamp})
		}
		for _, x := range append(someTables(), impl.TableOf(d)) {
			for _, h := range headsToClean(d) {
				expectVictims(t, d, x, h)
			}
		}
	}
}

// A page is written again and again: the blocks become full of old pages one after the other.
func TestP69VictimsWhileADeviceIsWritten(t *testing.T) {
	for size := 1; size <= mostBlocks; size++ {
		d := impl.NewDevice(size)
		h := noHeads()
		for n := 0; n < size*pagesOfBlock; n++ {
			d, h, _ = impl.AppendPage(d, h, warm, written(n%3, 1, 45, 1+n))
			expectVictimsAt(t, d, impl.TableOf(d), h, []int{0, n, n + 1, n + 2, mostStamp})
			expectVictims(t, d, impl.TableOf(d), noHeads())
		}
	}
}

func TestP69OtherDevicesHaveNoVictims(t *testing.T) {
	tables := append(someTables(), impl.Table{}, tableWithTwice(0, 0, 1))
	for _, d := range invalidDevices() {
		for _, x := range tables {
			for _, h := range []impl.Heads{noHeads(), headsAt(0, 1, 2), headsAt(0, 0, -1), {}} {
				expectNoVictims(t, d, x, h)
			}
		}
	}
}

// But for the wrong block, all pages of the device are written, and none is used.
func TestP69WithAWrongBlockADeviceHasNoVictims(t *testing.T) {
	for _, wrong := range invalidBlocks() {
		for _, size := range []int{1, 2, mostBlocks} {
			for _, n := range []int{0, size - 1} {
				expectNoVictims(t, withBlock(fullDevice(size), n, wrong), tableOf(noPages()), noHeads())
			}
		}
	}
}

func TestP69OtherTablesHaveNoVictims(t *testing.T) {
	for _, d := range [][]impl.Block{fullDevice(1), fullDevice(3), fullDevice(mostBlocks)} {
		for _, x := range invalidTables() {
			for _, h := range []impl.Heads{noHeads(), headsAt(-1, 0, -1), headsAt(0, 0, -1), headsAt(-2, -1, -1)} {
				expectNoVictims(t, d, x, h)
			}
		}
	}
	for _, d := range [][]impl.Block{nil, fullDevice(mostBlocks + 1), {{Wear: 5}}} {
		for _, x := range someInvalidTables() {
			expectNoVictims(t, d, x, noHeads())
		}
	}
}

// headsOutOfBounds are heads with a block that the device does not have, for one kind of heat or for all.
func headsOutOfBounds(size int) []impl.Heads {
	var heads []impl.Heads
	for _, n := range []int{-2, -3, size, size + 1, mostBlocks, math.MinInt, math.MaxInt} {
		heads = append(heads, headsAt(n, n, n))
		for _, heat := range heatKinds() {
			heads = append(heads, changedHead(noHeads(), heat, n))
		}
	}
	return heads
}

func TestP69WithOtherHeadsThereAreNoVictims(t *testing.T) {
	for size := 1; size <= mostBlocks; size++ {
		d := fullDevice(size)
		for _, h := range append(headsOfSize(size, false), headsOutOfBounds(size)...) {
			expectNoVictims(t, d, tableOf(noPages()), h)
			expectNoVictims(t, d, impl.Table{}, h)
		}
		for n := range d {
			for _, other := range []int{-1, 0, size - 1} {
				expectNoVictims(t, d, tableOf(noPages()), headsAt(n, n, other))
				expectNoVictims(t, d, tableOf(noPages()), headsAt(n, other, n))
				expectNoVictims(t, d, tableOf(noPages()), headsAt(other, n, n))
			}
		}
	}
}

// P70: older blocks are worth more.

func TestP70SomeScores(t *testing.T) {
	for used, scores := range [][]int{
		{0, 4, 8, 12, 16, 20, 24, 28, 32},
		{0, 1, 3, 4, 6, 7, 9, 10, 12},
		{0, 0, 1, 2, 2, 3, 4, 4, 5},
		{0, 0, 0, 0, 1, 1, 1, 1, 2},
		{0, 0, 0, 0, 0, 0, 0, 0, 0},
	} {
		for age, score := range scores {
			expectScore(t, used, age, score)
		}
	}
	for used, score := range []int{40, 15, 6, 2, 0} {
		expectScore(t, used, 10, score)
	}
	for used, score := range []int{3999996, 1499998, 666666, 249999, 0} {
		expectScore(t, used, 999999, score)
	}
	for used, score := range []int{4000000, 1500000, 666666, 250000, 0} {
		expectScore(t, used, 1000000, score)
	}
}

func TestP70AllScores(t *testing.T) {
	for used := 0; used <= pagesOfBlock; used++ {
		for age := 0; age <= mostStamp; age++ {
			// The message is made for wrong scores only: there are five million right ones.
			if impl.VictimScore(used, age) != scoreByParts(used, age) {
				expectScore(t, used, age, scoreByParts(used, age))
				break
			}
		}
	}
}

func TestP70AGreaterAgeHasNoLesserScore(t *testing.T) {
	for used := 0; used <= pagesOfBlock; used++ {
		before := impl.VictimScore(used, 0)
		for age := 1; age <= mostStamp; age++ {
			score := impl.VictimScore(used, age)
			if score < before || before < 0 {
				t.Fatalf("VictimScore(%d, %d) = %d, and %d one earlier", used, age, score, before)
			}
			before = score
		}
	}
}

func TestP70AUsedPageMoreHasNoGreaterScore(t *testing.T) {
	for age := 0; age <= mostStamp; age++ {
		for used := 0; used < pagesOfBlock; used++ {
			if impl.VictimScore(used+1, age) > impl.VictimScore(used, age) {
				t.Fatalf("VictimScore(%d, %d) = %d, but %d with a page more", used, age, impl.VictimScore(used, age), impl.VictimScore(used+1, age))
			}
		}
	}
}

func usedOutOfBounds() []int {
	return []int{-1, -2, -pagesOfBlock, pagesOfBlock + 1, pagesOfBlock + 2, 2 * pagesOfBlock, mostStamp, math.MinInt, math.MaxInt}
}

func TestP70OtherNumbersOfUsedPagesHaveNoScore(t *testing.T) {
	ages := append(timesOutOfBounds(), 0, 1, 2, 100, mostStamp-1, mostStamp)
	for _, used := range usedOutOfBounds() {
		for _, age := range ages {
			expectScore(t, used, age, -1)
		}
	}
}

func TestP70OtherAgesHaveNoScore(t *testing.T) {
	for _, age := range timesOutOfBounds() {
		for used := 0; used <= pagesOfBlock; used++ {
			expectScore(t, used, age, -1)
		}
	}
}

// P71: best victims are victims.

func TestP71BestVictimsOfSomeDevices(t *testing.T) {
	d := writtenUntil([]int{10, 90})
	x := tableWithUsed([]int{2, 0})
	// At 100, the older block with more used pages is worth 60, the younger one 40; at 130, they are worth 80 and 160.
	expectGreedy(t, d, x, noHeads(), 1)
	expectBest(t, d, x, noHeads(), 100, 0)
	expectBest(t, d, x, noHeads(), 130, 1)
	// At 106, both are worth 64: the first one is taken, whichever that is.
	expectBest(t, d, x, noHeads(), 105, 0)
	expectBest(t, d, x, noHeads(), 106, 0)
	expectBest(t, d, x, noHeads(), 107, 1)
	other := writtenUntil([]int{90, 10})
	y := tableWithUsed([]int{0, 2})
	expectGreedy(t, other, y, noHeads(), 0)
	expectBest(t, other, y, noHeads(), 105, 1)
	expectBest(t, other, y, noHeads(), 106, 0)
	expectBest(t, other, y, noHeads(), 107, 0)
	// Without the one, the other is taken.
	expectBest(t, d, x, headsAt(-1, 0, -1), 100, 1)
	expectBest(t, d, x, headsAt(1, -1, -1), 130, 0)
	expectBest(t, d, x, headsAt(1, 0, -1), 130, -1)
	expectBest(t, d, tableWithUsed([]int{4, 0}), noHeads(), 100, 1)
	expectBest(t, d, tableWithUsed([]int{4, 4}), noHeads(), 100, -1)
}

// Before the first write, and at it, no block is worth anything: the first one that may be cleaned is taken, not the one with the fewest used pages.
func TestP71OfBlocksThatAreWorthNothingTheFirstIsTaken(t *testing.T) {
	d := writtenUntil([]int{40, 30, 50, 60})
	x := tableWithUsed([]int{4, 3, 0, 1})
	expectGreedy(t, d, x, noHeads(), 2)
	for now := 0; now <= 30; now++ {
		expectBest(t, d, x, noHeads(), now, 1)
		expectBest(t, d, x, headsAt(-1, -1, 1), now, 2)
		expectBest(t, d, x, headsAt(2, -1, 1), now, 3)
		expectBest(t, d, x, headsAt(2, 3, 1), now, -1)
	}
	// Rounded down, the block 1 is worth nothing before 34.
	for now := 31; now <= 34; now++ {
		expectBest(t, d, x, noHeads(), now, 1)
		expectBest(t, d, x, headsAt(1, -1, -1), now, 2)
	}
	// At 50 it is worth 5, the block 2 nothing; at 51 the block 2 is worth 4, at 52 it is worth 8.
	expectBest(t, d, x, noHeads(), 50, 1)
	expectBest(t, d, x, noHeads(), 51, 1)
	expectBest(t, d, x, noHeads(), 52, 2)
}

// Up to its last write a block is worth nothing, and not less, however late that write is: of several such blocks the first one is taken, though more of it is used.
func TestP71AgesAreNotLessThanZero(t *testing.T) {
	for _, last := range []int{1, 2, 70, mostStamp - 1, mostStamp} {
		for _, now := range []int{0, last - 1, last} {
			for used := 0; used < pagesOfBlock; used++ {
				expectBest(t, writtenUntil([]int{last}), tableWithUsed([]int{used}), noHeads(), now, 0)
			}
			for _, later := range []int{last, mostStamp} {
				expectBest(t, writtenUntil([]int{last, later}), tableWithUsed([]int{3, 0}), noHeads(), now, 0)
				expectBest(t, writtenUntil([]int{later, last}), tableWithUsed([]int{3, 0}), noHeads(), now, 0)
			}
		}
	}
}

// Right after its last write a block with one used page is worth 1, and one that is written no earlier nothing yet.
func TestP71AfterItsLastWriteABlockIsWorthMore(t *testing.T) {
	for _, last := range []int{1, 2, 70, mostStamp - 1} {
		for _, later := range []int{last + 1, mostStamp} {
			d := writtenUntil([]int{later, last})
			expectBest(t, d, tableWithUsed([]int{0, 1}), noHeads(), last, 0)
			expectBest(t, d, tableWithUsed([]int{0, 1}), noHeads(), last+1, 1)
		}
	}
}

// The greatest Stamp is that of any page: the block is younger than the one beside it, whose pages are all of 35.
func TestP71TheGreatestStampOfABlockCounts(t *testing.T) {
	x := tableWithUsed([]int{1, 1})
	for _, stamps := range listsOf([]int{10, 20, 30, 40}, pagesOfBlock) {
		d := stampedDevice([][]int{stamps, {35, 35, 35, 35}})
		best := 0
		if slices.Contains(stamps, 40) {
			best = 1
		}
		expectBest(t, d, x, noHeads(), 50, best)
		expectBest(t, []impl.Block{d[1], d[0]}, x, noHeads(), 50, 1-best)
		expectVictimsAt(t, d, x, noHeads(), numbersFromTo(0, 50))
	}
}

// Pages that are used count for the age as others do, and which of them are used does not matter.
func TestP71TheGreatestStampMayBeThatOfAUsedPage(t *testing.T) {
	for _, greatest := range []int{0, 1, 2, 3} {
		d := stampedDevice([][]int{withNumber([]int{10, 10, 10, 10}, greatest, 40), {35, 35, 35, 35}})
		for page := 0; page < pagesOfBlock; page++ {
			for _, x := range tablesWithPages([]int{page, pagesOfBlock}) {
				expectBest(t, d, x, noHeads(), 50, 1)
			}
		}
	}
}

// One block is oldest by far, with no page used: but it is a head, not full, or there is no old page in it.
func TestP71BlocksThatMayNotBeCleanedAreNotTheBest(t *testing.T) {
	for size := 2; size <= mostBlocks; size++ {
		for n := 0; n < size; n++ {
			stamps := withNumber(slices.Repeat([]int{900}, size), n, 1)
			d := writtenUntil(stamps)
			expectBest(t, d, tableOf(noPages()), noHeads(), 1000, n)
			for _, heat := range heatKinds() {
				expectBest(t, d, tableOf(noPages()), changedHead(noHeads(), heat, n), 1000, firstBeside(size, n))
			}
			for many := 0; many < pagesOfBlock; many++ {
				part := withBlock(d, n, stampedBlock(slices.Repeat([]int{1}, many)))
				expectBest(t, part, tableOf(noPages()), noHeads(), 1000, firstBeside(size, n))
			}
			for _, now := range []int{0, 900, 901, mostStamp} {
				expectBest(t, d, tableWithUsed(sameButOne(size, 3, n, pagesOfBlock)), noHeads(), now, firstBeside(size, n))
			}
		}
	}
}

// The first, a middle or the last block is the oldest one, or the youngest.
func TestP71OfBlocksWithAsManyUsedPagesTheOldestIsTaken(t *testing.T) {
	for size := 1; size <= mostBlocks; size++ {
		for n := 0; n < size; n++ {
			for used := 0; used < pagesOfBlock; used++ {
				for _, x := range tablesWithUsed(slices.Repeat([]int{used}, size)) {
					oldest := writtenUntil(withNumber(slices.Repeat([]int{500}, size), n, 400))
					youngest := writtenUntil(withNumber(slices.Repeat([]int{400}, size), n, 500))
					expectBest(t, oldest, x, noHeads(), 600, n)
					expectBest(t, youngest, x, noHeads(), 600, max(firstBeside(size, n), 0))
				}
			}
		}
	}
}

// In all sets of blocks the score is the greatest: the first one of them is taken.
func TestP71OfBlocksWithTheSameScoreTheFirstIsTaken(t *testing.T) {
	for set := 1; set < 4096; set++ {
		stamps := slices.Repeat([]int{500}, mostBlocks)
		used := slices.Repeat([]int{1}, mostBlocks)
		for n := range stamps {
			if hasByHalving(set, n) {
				// At 1000 the first score is 900 as the second one: 600 times 3 by 2, and 225 times 4.
				stamps[n] = []int{400, 775}[n%2]
				used[n] = []int{1, 0}[n%2]
			}
		}
		first := slices.IndexFunc(stamps, func(stamp int) bool { return stamp != 500 })
		expectBest(t, writtenUntil(stamps), tableWithUsed(used), noHeads(), 1000, first)
	}
}

// Scores that differ by a remainder only are the same.
func TestP71ScoresAreRoundedDown(t *testing.T) {
	// At 110, with 3 used pages, ages of 8 to 11 are worth 2.
	x := tableWithUsed([]int{3, 3})
	for first := 99; first <= 102; first++ {
		for second := 99; second <= 102; second++ {
			expectBest(t, writtenUntil([]int{first, second}), x, noHeads(), 110, 0)
		}
		expectBest(t, writtenUntil([]int{first, 98}), x, noHeads(), 110, 1)
	}
	// With 2 used pages, an age of 3 is worth 2, and with 3 used ones, ages of 8 to 11.
	y := tableWithUsed([]int{2, 3})
	for second := 99; second <= 102; second++ {
		expectBest(t, writtenUntil([]int{107, second}), y, noHeads(), 110, 0)
		expectBest(t, writtenUntil([]int{108, second}), y, noHeads(), 110, 1)
	}
}

// Three blocks that were written at the same time or at others, with all numbers of used pages.
func TestP71BestVictimsOfSmallDevices(t *testing.T) {
	times := []int{0, 1, 2, 3, 49, 50, 51, 53, 100, 999999, mostStamp}
	for _, stamps := range listsOf([]int{1, 50, 53, mostStamp}, 3) {
		d := writtenUntil(stamps)
		for _, used := range listsOf(numbersFromTo(0, pagesOfBlock), 3) {
			expectVictimsAt(t, d, tableWithUsed(used), noHeads(), times)
		}
	}
}

func TestP71BestVictimsAtAllTimesNearWrites(t *testing.T) {
	d := stampedDevice([][]int{{3, 1, 2, 2}, {9, 8, 7, 6}, {5, 30, 4, 1}, {10, 11, 12, 13}})
	for _, used := range listsOf([]int{0, 1, 2, 3}, 4) {
		for _, h := range []impl.Heads{noHeads(), headsAt(-1, 3, -1)} {
			expectVictimsAt(t, d, tableWithUsed(used), h, numbersFromTo(0, 60))
		}
	}
}

// There are victims at other times, or none, or other arguments are not valid, too.
func TestP71AtOtherTimesThereAreNoBestVictims(t *testing.T) {
	for _, now := range timesOutOfBounds() {
		for size := 1; size <= mostBlocks; size++ {
			for _, x := range append(someTables(), tableWithUsed(sameButOne(size, 4, size-1, 3)), impl.Table{}) {
				expectBest(t, fullDevice(size), x, noHeads(), now, -1)
				expectBest(t, fullDevice(size), x, headsAt(0, -1, -1), now, -1)
				expectBest(t, fullDevice(size), x, headsAt(0, 0, -1), now, -1)
				expectBest(t, impl.NewDevice(size), x, noHeads(), now, -1)
			}
		}
		for _, d := range devicesOfOtherSize() {
			expectBest(t, d, tableOf(noPages()), noHeads(), now, -1)
		}
	}
}

// What is given is not written to. No function of the chapter returns memory.

// victimHeads are heads for the tests on memory: valid ones for devices of some sizes, and others.
func victimHeads() []impl.Heads {
	return []impl.Heads{noHeads(), headsAt(-1, 0, -1), headsAt(2, -1, 1), headsAt(1, 1, -1)}
}

func TestDevicesGivenForVictimsAreNotWrittenTo(t *testing.T) {
	for _, d := range devicesInMemory() {
		for _, x := range append(someTables(), impl.Table{}, impl.TableOf(d)) {
			for _, h := range victimHeads() {
				expectGivenNotWritten(t, deviceCall{"GreedyVictim", func(d []impl.Block) []impl.Block { impl.GreedyVictim(d, x, h); return nil }}, d)
				for _, now := range []int{-1, 0, 990, mostStamp} {
					expectGivenNotWritten(t, deviceCall{"BestVictim", func(d []impl.Block) []impl.Block { impl.BestVictim(d, x, h, now); return nil }}, d)
				}
			}
		}
	}
}

// victimTableCalls are all calls of the chapter that take a table.
func victimTableCalls() []tableCall {
	var calls []tableCall
	for _, d := range append(countDevices(), fullDevice(mostBlocks)) {
		for _, h := range victimHeads() {
			calls = append(calls, tableCall{"GreedyVictim", func(x impl.Table) impl.Table { impl.GreedyVictim(d, x, h); return impl.Table{} }})
			for _, now := range []int{-1, 0, 990, mostStamp} {
				calls = append(calls, tableCall{"BestVictim", func(x impl.Table) impl.Table { impl.BestVictim(d, x, h, now); return impl.Table{} }})
			}
		}
	}
	return calls
}

func TestTablesGivenForVictimsAreNotWrittenTo(t *testing.T) {
	for _, c := range victimTableCalls() {
		for _, x := range append(tablesInMemory(), tablesToCount()...) {
			expectTableNotWritten(t, c, x)
		}
	}
}

// A device may be given whose blocks share their pages: each page has a number of its own all the same.
func TestBlocksGivenForVictimsMayShareMemory(t *testing.T) {
	for size := 1; size <= mostBlocks; size++ {
		for many := 0; many <= pagesOfBlock; many++ {
			shared := slices.Repeat([]impl.Block{blockWith(5, many)}, size)
			for _, x := range tablesToCount() {
				expectVictims(t, shared, x, noHeads())
			}
		}
	}
}

// A table may be given whose lists share their numbers, if all are -1.
func TestListsGivenForVictimsMayShareMemory(t *testing.T) {
	shared := impl.Table{At: slices.Repeat([][]int{slices.Repeat([]int{-1}, placesOfFile)}, filesOfTable)}
	for _, d := range devicesToCount() {
		for _, h := range headsToClean(d) {
			expectVictims(t, d, shared, h)
		}
	}
}
