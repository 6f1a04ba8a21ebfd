package tests

import (
	"math"
	"slices"
	"testing"

	"loop.example/flashfiles/impl"
)

// gapOfWear is how much wear may differ.
const gapOfWear = 5

// wearsOf are how often the blocks of a device were erased.
func wearsOf(d []impl.Block) []int {
	var wears []int
	for _, b := range d {
		wears = append(wears, b.Wear)
	}
	return wears
}

// spreadByPairs reckons the spread: the greatest difference of any two blocks.
func spreadByPairs(wears []int) int {
	spread := 0
	for _, a := range wears {
		for _, b := range wears {
			spread = max(spread, a-b)
		}
	}
	return spread
}

// totalByRounds reckons the total: in every round it counts the blocks that were erased at least that often.
func totalByRounds(wears []int) int {
	total := 0
	for round := 1; round <= mostWear; round++ {
		for _, wear := range wears {
			if wear >= round {
				total++
			}
		}
	}
	return total
}

// mayBeRested reports whether a block may be named: it has a written page, and is no head.
func mayBeRested(d []impl.Block, h impl.Heads, n int) bool {
	return countFull(d[n].Pages) > 0 && !slices.Contains(headList(h), n)
}

// restedBySorting reckons the block that is named: it sorts all blocks that may be.
func restedBySorting(d []impl.Block, h impl.Heads) int {
	blocks := slices.DeleteFunc(numbersFromTo(0, len(d)-1), func(n int) bool { return !mayBeRested(d, h, n) })
	slices.SortStableFunc(blocks, func(a int, b int) int { return d[a].Wear - d[b].Wear })
	if len(blocks) == 0 || spreadByPairs(wearsOf(d)) < gapOfWear+1 {
		return -1
	}
	return blocks[0]
}

// devicesOfWear are devices whose blocks were erased so often, with no page written, all of them, and some.
func devicesOfWear(wears []int) [][]impl.Block {
	var devices [][]impl.Block
	for _, counts := range countsOf(len(wears)) {
		devices = append(devices, wornBlocks(wears, counts))
	}
	return devices
}

// writtenBlocks returns a device whose blocks were erased so often, all with one written page.
func writtenBlocks(wears []int) []impl.Block {
	return wornBlocks(wears, slices.Repeat([]int{1}, len(wears)))
}

// withTwoNumbers returns numbers with other ones at two places.
func withTwoNumbers(numbers []int, first int, number int, second int, other int) []int {
	return withNumber(withNumber(numbers, first, number), second, other)
}

// headOfEachKind are heads with a block for one kind of heat alone.
func headOfEachKind(n int) []impl.Heads {
	var heads []impl.Heads
	for _, heat := range heatKinds() {
		heads = append(heads, changedHead(noHeads(), heat, n))
	}
	return heads
}

func expectSpread(t *testing.T, d []impl.Block, spread int) {
	t.Helper()
	if got := impl.WearSpread(d); got != spread {
		t.Errorf("WearSpread(%+v) = %d, not %d", d, got, spread)
	}
}

func expectTotal(t *testing.T, d []impl.Block, total int) {
	t.Helper()
	if got := impl.WearTotal(d); got != total {
		t.Errorf("WearTotal(%+v) = %d, not %d", d, got, total)
	}
}

func expectRested(t *testing.T, d []impl.Block, h impl.Heads, n int) {
	t.Helper()
	if got := impl.WearVictim(d, h); got != n {
		t.Errorf("WearVictim(%+v, %+v) = %d, not %d", d, h, got, n)
	}
}

// expectWears expects the spread and the total of all devices whose blocks were erased so often, whatever is written.
func expectWears(t *testing.T, wears []int, spread int, total int) {
	t.Helper()
	for _, d := range devicesOfWear(wears) {
		expectSpread(t, d, spread)
		expectTotal(t, d, total)
	}
}

// expectNoWear expects what there is for devices that are not valid.
func expectNoWear(t *testing.T, d []impl.Block) {
	t.Helper()
	expectSpread(t, d, -1)
	expectTotal(t, d, -1)
	heads := []impl.Heads{noHeads(), headsAt(0, -1, -1), headsAt(-1, 0, -1), headsAt(-1, -1, 0), headsAt(0, 1, 2), {}}
	for _, h := range heads {
		expectRested(t, d, h, -1)
	}
}

// expectInSpread expects what promise 76 says.
func expectInSpread(t *testing.T, d []impl.Block) {
	t.Helper()
	spread := impl.WearSpread(d)
	if spread < 0 {
		t.Errorf("WearSpread(%+v) = %d", d, spread)
	}
	for n, b := range d {
		if max(b.Wear-d[0].Wear, d[0].Wear-b.Wear) > spread {
			t.Errorf("WearSpread(%+v) = %d, but the block %d differs by more from the first one", d, spread, n)
		}
	}
	expectSpread(t, d[:1], 0)
}

// expectWearAddsUp expects what promise 77 says.
func expectWearAddsUp(t *testing.T, d []impl.Block) {
	t.Helper()
	expectTotal(t, d[:1], d[0].Wear)
	if len(d) > 1 {
		expectTotal(t, d, d[0].Wear+impl.WearTotal(d[1:]))
	}
}

// expectRestedIsLeast expects what promise 78 says.
func expectRestedIsLeast(t *testing.T, d []impl.Block, h impl.Heads) {
	t.Helper()
	victim := impl.WearVictim(d, h)
	if victim == -1 {
		return
	}
	if impl.WearSpread(d) <= impl.WearGap || !mayBeRested(d, h, victim) {
		t.Errorf("WearVictim(%+v, %+v) = %d, which may not be named", d, h, victim)
	}
	for n, b := range d {
		if mayBeRested(d, h, n) && b.Wear < d[victim].Wear {
			t.Errorf("WearVictim(%+v, %+v) = %d, but %d was erased less often", d, h, victim, n)
		}
	}
}

// expectWorn expects of a valid device what chapter 16 says, and what promises 76 and 77 do.
func expectWorn(t *testing.T, d []impl.Block) {
	t.Helper()
	expectSpread(t, d, spreadByPairs(wearsOf(d)))
	expectTotal(t, d, totalByRounds(wearsOf(d)))
	expectInSpread(t, d)
	expectWearAddsUp(t, d)
}

// expectNamed expects of a valid device and valid heads what chapter 16 says, and what promise 78 does.
func expectNamed(t *testing.T, d []impl.Block, h impl.Heads) {
	t.Helper()
	expectRested(t, d, h, restedBySorting(d, h))
	expectRestedIsLeast(t, d, h)
}

// expectAllNamed is expectNamed for all heads of a device, or for many of a larger one.
func expectAllNamed(t *testing.T, d []impl.Block) {
	t.Helper()
	for _, h := range headsOfSize(len(d), true) {
		expectNamed(t, d, h)
	}
}

func TestLimitsOfWear(t *testing.T) {
	if impl.WearGap != gapOfWear {
		t.Fatal(impl.WearGap)
	}
}

// P76: spreads are not negative.

func TestP76SpreadsAndTotalsOfSomeDevices(t *testing.T) {
	cases := []struct {
		wears         []int
		spread, total int
	}{
		{[]int{0}, 0, 0}, {[]int{7}, 0, 7}, {[]int{100}, 0, 100},
		{[]int{0, 0}, 0, 0}, {[]int{7, 7}, 0, 14}, {[]int{100, 100}, 0, 200},
		{[]int{3, 9}, 6, 12}, {[]int{9, 3}, 6, 12}, {[]int{0, 100}, 100, 100}, {[]int{100, 0}, 100, 100}, {[]int{99, 100}, 1, 199},
		{[]int{4, 9, 2, 7}, 7, 22}, {[]int{2, 2, 9, 9, 5}, 7, 27}, {[]int{50, 0, 100}, 100, 150}, {[]int{100, 0, 0, 100}, 100, 200},
		{[]int{11, 10, 9, 8, 7, 6, 5, 4, 3, 2, 1, 0}, 11, 66},
		{[]int{30, 31, 30, 29, 30, 30, 30, 30, 30, 30, 30, 30}, 2, 360},
		{slices.Repeat([]int{0}, mostBlocks), 0, 0}, {slices.Repeat([]int{100}, mostBlocks), 0, 1200},
		{slices.Repeat([]int{0, 100}, 6), 100, 600}, {slices.Repeat([]int{100, 99}, 6), 1, 1194},
	}
	for _, c := range cases {
		expectWears(t, c.wears, c.spread, c.total)
	}
}

// A device of which no block was ever erased is among them.
func TestP76BlocksErasedEquallyOftenHaveNoSpread(t *testing.T) {
	for size := 1; size <= mostBlocks; size++ {
		for wear := 0; wear <= mostWear; wear++ {
			expectWears(t, slices.Repeat([]int{wear}, size), 0, wear*size)
		}
	}
}

func TestP76AllPairsOfBlocks(t *testing.T) {
	for first := 0; first <= mostWear; first++ {
		for second := first; second <= mostWear; second++ {
			expectWears(t, []int{first, second}, second-first, first+second)
			expectWears(t, []int{second, first}, second-first, first+second)
		}
	}
}

// All other blocks lie between, or were erased as often as the one or the other.
func TestP76TheGreatestAndTheLeastWearMayBeThatOfAnyBlock(t *testing.T) {
	for size := 2; size <= mostBlocks; size++ {
		for most := 0; most < size; most++ {
			for least := 0; least < size; least++ {
				if most == least {
					continue
				}
				for _, between := range []int{20, 21, 60, 89, 90} {
					wears := withTwoNumbers(slices.Repeat([]int{between}, size), most, 90, least, 20)
					expectWears(t, wears, 70, 110+between*(size-2))
				}
				for _, between := range []int{0, 1, 50, 99, 100} {
					wears := withTwoNumbers(slices.Repeat([]int{between}, size), most, 100, least, 0)
					expectWears(t, wears, 100, 100+between*(size-2))
				}
			}
		}
	}
}

// In all sets of blocks the wear is the greatest, and in the others the least, or that of one other block is between.
func TestP76SeveralBlocksMayHaveTheGreatestOrTheLeastWear(t *testing.T) {
	for set := 0; set < 4096; set++ {
		wears := make([]int, mostBlocks)
		for n := range wears {
			wears[n] = 12
			if hasByHalving(set, n) {
				wears[n] = 93
			}
		}
		expectWorn(t, writtenBlocks(wears))
		expectWorn(t, writtenBlocks(withNumber(wears, set%mostBlocks, 50)))
	}
}

// The page that is written may be any valid one, and in every block there may be none, some, or all.
func TestP76WhatIsWrittenDoesNotCount(t *testing.T) {
	for _, counts := range listsOf(numbersFromTo(0, pagesOfBlock), 3) {
		for _, wears := range [][]int{{0, 0, 0}, {4, 9, 2}, {100, 0, 50}, {6, 6, 0}} {
			d := wornBlocks(wears, counts)
			expectSpread(t, d, spreadByPairs(wears))
			expectTotal(t, d, totalByRounds(wears))
		}
	}
	for _, p := range validPages() {
		for n := 0; n < 3; n++ {
			d := wornBlocks([]int{4, 9, 2}, []int{0, 0, 0})
			d[n] = withPage(d[n], 0, p)
			expectSpread(t, d, 7)
			expectTotal(t, d, 15)
		}
	}
}

func TestP76AllSmallDevices(t *testing.T) {
	for size := 1; size <= 4; size++ {
		for _, wears := range listsOf([]int{0, 1, 4, 5, 6, 50, 99, 100}, size) {
			expectWorn(t, writtenBlocks(wears))
			expectWorn(t, wornBlocks(wears, make([]int, size)))
		}
	}
}

func TestP76ValidDevices(t *testing.T) {
	for _, d := range append(smallDevices(), validDevices()...) {
		expectWorn(t, d)
	}
}

func TestP76OtherDevicesHaveNoSpread(t *testing.T) {
	for _, d := range invalidDevices() {
		expectSpread(t, d, -1)
	}
}

// P77: wear adds up.

func TestP77OneBlockAlone(t *testing.T) {
	for wear := 0; wear <= mostWear; wear++ {
		expectWears(t, []int{wear}, 0, wear)
	}
}

func TestP77EveryBlockCounts(t *testing.T) {
	for size := 2; size <= mostBlocks; size++ {
		for n := 0; n < size; n++ {
			for wear := 0; wear <= mostWear; wear++ {
				expectTotal(t, writtenBlocks(sameButOne(size, 0, n, wear)), wear)
				expectTotal(t, writtenBlocks(sameButOne(size, mostWear, n, wear)), mostWear*(size-1)+wear)
			}
		}
	}
}

// A device can be told in two parts anywhere.
func TestP77TotalsOfPartsAddUp(t *testing.T) {
	for _, d := range validDevices() {
		for n := 1; n < len(d); n++ {
			expectTotal(t, d, impl.WearTotal(d[:n])+impl.WearTotal(d[n:]))
		}
	}
}

func TestP77OtherDevicesHaveNoTotal(t *testing.T) {
	for _, d := range invalidDevices() {
		expectTotal(t, d, -1)
	}
}

// P78: rested blocks are moved.

func TestP78BlocksOfSomeDevices(t *testing.T) {
	d := wornBlocks([]int{0, 9, 3, 9, 3, 5}, []int{0, 4, 1, 2, 3, 1})
	// The first block was never erased, but is empty; the blocks 2 and 4 were erased equally often.
	expectRested(t, d, noHeads(), 2)
	for _, h := range headOfEachKind(2) {
		expectRested(t, d, h, 4)
	}
	for _, heat := range heatKinds() {
		expectRested(t, d, headsFor(heat, 2, 4, -1), 5)
		expectRested(t, d, headsFor(heat, 2, 4, 5), 1)
		expectRested(t, d, headsFor(heat, 0, 1, 3), 2)
	}
	expectRested(t, d[1:], noHeads(), 1)
	expectRested(t, d[2:], noHeads(), 0)
	// The blocks from 4 on differ by 2 only.
	expectRested(t, d[4:], noHeads(), -1)
	expectRested(t, d[:1], noHeads(), -1)
}

// The first, a middle or the last block is the least or the most worn one, by so much.
func TestP78WearDiffersByMoreThanTheGap(t *testing.T) {
	for size := 2; size <= mostBlocks; size++ {
		for n := 0; n < size; n++ {
			for least := 0; least <= mostWear; least++ {
				for spread := 0; spread <= min(2*gapOfWear, mostWear-least); spread++ {
					rested := writtenBlocks(sameButOne(size, least+spread, n, least))
					worn := writtenBlocks(sameButOne(size, least, n, least+spread))
					if spread <= 5 {
						expectRested(t, rested, noHeads(), -1)
						expectRested(t, worn, noHeads(), -1)
					} else {
						expectRested(t, rested, noHeads(), n)
						expectRested(t, worn, noHeads(), firstBeside(size, n))
					}
				}
			}
		}
	}
}

func TestP78GapsOfAllPairsOfBlocks(t *testing.T) {
	for _, wears := range listsOf(numbersFromTo(0, mostWear), 2) {
		expectNamed(t, writtenBlocks(wears), noHeads())
	}
}

// Two blocks make the spread, but are empty, or heads: of the others, which do not differ, the first one is named.
func TestP78AllBlocksCountForTheSpread(t *testing.T) {
	for _, spread := range []int{0, gapOfWear - 1, gapOfWear, gapOfWear + 1, 50} {
		for _, others := range []int{40, 40 + spread/2, 40 + spread} {
			for least := 0; least < 4; least++ {
				for most := 0; most < 4; most++ {
					if least != most {
						expectNamedBeside(t, others, spread, least, most)
					}
				}
			}
		}
	}
}

// expectNamedBeside expects that of four blocks, two of which make the spread and may not be named, the first other one is named if that is more than the gap.
func expectNamedBeside(t *testing.T, others int, spread int, least int, most int) {
	t.Helper()
	named := -1
	if spread > gapOfWear {
		named = slices.IndexFunc(numbersFromTo(0, 3), func(n int) bool { return n != least && n != most })
	}
	d := writtenBlocks(withTwoNumbers(slices.Repeat([]int{others}, 4), least, 40, most, 40+spread))
	leastEmpty := withBlock(d, least, blockWith(40, 0))
	mostEmpty := withBlock(d, most, blockWith(40+spread, 0))
	bothEmpty := withBlock(leastEmpty, most, mostEmpty[most])
	expectRested(t, bothEmpty, noHeads(), named)
	for _, heat := range heatKinds() {
		expectRested(t, d, headsFor(heat, least, most, -1), named)
		expectRested(t, leastEmpty, changedHead(noHeads(), heat, most), named)
		expectRested(t, mostEmpty, changedHead(noHeads(), heat, least), named)
		expectRested(t, bothEmpty, headsFor(heat, least, -1, most), named)
	}
}

// The block may even be the most worn one, if no other may be named.
func TestP78TheOnlyBlockThatMayBeNamed(t *testing.T) {
	for size := 2; size <= mostBlocks; size++ {
		for n := 0; n < size; n++ {
			for many := 1; many <= pagesOfBlock; many++ {
				counts := sameButOne(size, 0, n, many)
				for _, wears := range [][]int{sameButOne(size, 60, n, 66), sameButOne(size, 0, n, mostWear), sameButOne(size, 66, n, 60)} {
					d := wornBlocks(wears, counts)
					expectRested(t, d, noHeads(), n)
					for _, h := range headOfEachKind(firstBeside(size, n)) {
						expectRested(t, d, h, n)
					}
					for _, h := range headOfEachKind(n) {
						expectRested(t, d, h, -1)
					}
				}
			}
		}
	}
}

// A block that is never erased is named as soon as the others were erased more than WearGap times, if it has a page.
func TestP78BlocksThatAreNeverErased(t *testing.T) {
	for size := 2; size <= mostBlocks; size++ {
		for n := 0; n < size; n++ {
			for wear := 0; wear <= mostWear; wear++ {
				named, other := -1, -1
				if wear > gapOfWear {
					named, other = n, firstBeside(size, n)
				}
				wears := sameButOne(size, wear, n, 0)
				for many := 1; many <= pagesOfBlock; many++ {
					expectRested(t, wornBlocks(wears, slices.Repeat([]int{many}, size)), noHeads(), named)
					expectRested(t, wornBlocks(wears, sameButOne(size, 0, n, many)), noHeads(), named)
					expectRested(t, wornBlocks(wears, sameButOne(size, many, n, 0)), noHeads(), other)
				}
				expectRested(t, wornBlocks(wears, make([]int, size)), noHeads(), -1)
			}
		}
	}
}

// Several blocks were never erased, in all sets of blocks: the first one of them that has a page is named.
func TestP78OfSeveralBlocksThatAreNeverErasedTheFirstWithAPageIsNamed(t *testing.T) {
	for set := 0; set < 64; set++ {
		for with := 0; with < 64; with++ {
			wears := slices.Repeat([]int{8}, 6)
			counts := make([]int, 6)
			for n := range wears {
				if hasByHalving(set, n) {
					wears[n] = 0
				}
				if hasByHalving(with, n) {
					counts[n] = 1 + n%pagesOfBlock
				}
			}
			expectNamed(t, wornBlocks(wears, counts), noHeads())
		}
	}
}

// In use blocks come to differ one erasing after the other.
func TestP78ABlockIsErasedUntilAnotherOneIsNamed(t *testing.T) {
	for size := 2; size <= mostBlocks; size++ {
		for n := 0; n < size; n++ {
			d, _ := impl.Program(impl.NewDevice(size), n, written(1, 4, 20, 30))
			other := firstBeside(size, n)
			for times := 1; times <= mostWear; times++ {
				d, _ = impl.EraseAt(d, other)
				expectSpread(t, d, times)
				expectTotal(t, d, times)
				if times <= gapOfWear {
					expectRested(t, d, noHeads(), -1)
				} else {
					expectRested(t, d, noHeads(), n)
				}
			}
		}
	}
}

// After it was cleaned the block that was named has no page, and so it is not named again.
func TestP78NamedBlocksCanBeCleaned(t *testing.T) {
	p := written(1, 4, 20, 30)
	for size := 2; size <= mostBlocks; size++ {
		for n := 0; n < size; n++ {
			d, at := impl.Program(wornBlocks(sameButOne(size, 9, n, 0), make([]int, size)), n, p)
			expectRested(t, d, noHeads(), n)
			after, x, h, moved, done := impl.CleanBlock(d, impl.TableOf(d), noHeads(), n, 31)
			if at != n*pagesOfBlock || moved != 1 || !done {
				t.Fatalf("CleanBlock(%+v) = %+v, %v, %+v, %d, %t", d, after, x, h, moved, done)
			}
			expectSpread(t, after, 8)
			expectTotal(t, after, impl.WearTotal(d)+1)
			// The page is in the head for cold pages then; where there is no head, that block is the only one with a page.
			expectRested(t, after, h, -1)
			expectRested(t, after, noHeads(), firstBeside(size, n))
		}
	}
}

// The least worn block is a head: the next one is named, which was erased as often, or more often.
func TestP78HeadsAreNotNamed(t *testing.T) {
	for size := 3; size <= mostBlocks; size++ {
		for n := 0; n < size; n++ {
			next := firstBeside(size, n)
			for _, wear := range []int{0, 1, 49, 50} {
				d := writtenBlocks(withTwoNumbers(slices.Repeat([]int{50}, size), n, 0, next, wear))
				for _, h := range headOfEachKind(n) {
					expectRested(t, d, h, next)
				}
				expectAllNamed(t, d)
			}
		}
	}
}

// Heads for all kinds of heat do not matter if they are other blocks.
func TestP78BesideHeadsTheLeastWornBlockIsNamed(t *testing.T) {
	for size := 2; size <= mostBlocks; size++ {
		for n := 0; n < size; n++ {
			d := writtenBlocks(sameButOne(size, 50, n, 0))
			for _, h := range headsFrom([]int{-1, firstBeside(size, n), size / 2, size - 1}) {
				if areHeads(size, h) && !slices.Contains(headList(h), n) {
					expectRested(t, d, h, n)
				}
			}
		}
	}
}

// One, two or three blocks have a page, and all of these are heads.
func TestP78WithoutABlockBesideHeadsNoneIsNamed(t *testing.T) {
	for size := 2; size <= mostBlocks; size++ {
		for _, h := range headsOfSize(size, true) {
			counts := make([]int, size)
			for _, n := range headList(h) {
				if n >= 0 {
					counts[n] = 1 + n%pagesOfBlock
				}
			}
			for n := 0; n < size; n++ {
				expectRested(t, wornBlocks(sameButOne(size, 20, n, 0), counts), h, -1)
				expectRested(t, wornBlocks(sameButOne(size, 20, n, 100), counts), h, -1)
			}
		}
	}
}

func TestP78BlocksWithoutAWrittenPageAreNotNamed(t *testing.T) {
	for size := 1; size <= mostBlocks; size++ {
		for n := 0; n < size; n++ {
			for _, wears := range [][]int{sameButOne(size, 20, n, 0), sameButOne(size, 0, n, 20), sameButOne(size, 0, n, 100)} {
				for _, h := range headsOfSize(size, true) {
					expectRested(t, wornBlocks(wears, make([]int, size)), h, -1)
				}
			}
		}
	}
}

// The least worn block has one written page, some, or all: it is named. With none, the next one is.
func TestP78OneWrittenPageIsEnough(t *testing.T) {
	for size := 2; size <= mostBlocks; size++ {
		for n := 0; n < size; n++ {
			wears := sameButOne(size, 30, n, 10)
			for others := 1; others <= pagesOfBlock; others++ {
				for many := 1; many <= pagesOfBlock; many++ {
					expectRested(t, wornBlocks(wears, sameButOne(size, others, n, many)), noHeads(), n)
				}
				expectRested(t, wornBlocks(wears, sameButOne(size, others, n, 0)), noHeads(), firstBeside(size, n))
			}
		}
	}
}

func TestP78EveryWrittenPageIsEnough(t *testing.T) {
	for _, p := range validPages() {
		for n := 0; n < 3; n++ {
			d := wornBlocks(sameButOne(3, 30, n, 10), sameButOne(3, 1, n, 0))
			named := firstBeside(3, n)
			if p.Full {
				named = n
			}
			expectRested(t, withBlock(d, n, withPage(d[n], 0, p)), noHeads(), named)
		}
	}
}

// In all sets of blocks the wear is the least: the first one of them is named.
func TestP78OfBlocksErasedEquallyOftenTheFirstIsNamed(t *testing.T) {
	for set := 1; set < 4095; set++ {
		wears := slices.Repeat([]int{70}, mostBlocks)
		for n := range wears {
			if hasByHalving(set, n) {
				wears[n] = 64
			}
		}
		first := slices.Index(wears, 64)
		d := writtenBlocks(wears)
		expectRested(t, d, noHeads(), first)
		second := slices.Index(withNumber(wears, first, 70), 64)
		if second < 0 {
			second = firstBeside(mostBlocks, first)
		}
		for _, h := range headOfEachKind(first) {
			expectRested(t, d, h, second)
		}
		expectRested(t, withBlock(d, first, blockWith(64, 0)), noHeads(), second)
	}
}

func TestP78AllSmallDevices(t *testing.T) {
	for size := 1; size <= 3; size++ {
		for _, wears := range listsOf([]int{0, 1, 5, 6, 7, 100}, size) {
			for _, counts := range listsOf([]int{0, 1, pagesOfBlock}, size) {
				expectAllNamed(t, wornBlocks(wears, counts))
			}
		}
	}
}

func TestP78ValidDevices(t *testing.T) {
	for _, d := range validDevices() {
		expectAllNamed(t, d)
	}
}

// On these devices a block is named beside valid heads.
func TestP78WithOtherHeadsNoBlockIsNamed(t *testing.T) {
	for size := 2; size <= mostBlocks; size++ {
		for _, n := range blocksOfSize(size) {
			d := writtenBlocks(sameButOne(size, 50, n, 0))
			expectRested(t, d, noHeads(), n)
			for _, h := range append(headsOfSize(size, false), headsOutOfBounds(size)...) {
				expectRested(t, d, h, -1)
			}
			for _, h := range headsTwice(size) {
				expectRested(t, d, h, -1)
			}
		}
	}
	for _, h := range append(headsOfSize(1, false), headsOutOfBounds(1)...) {
		expectRested(t, writtenBlocks([]int{50}), h, -1)
	}
}

// headsTwice are heads with the same block for two kinds of heat, or for all three.
func headsTwice(size int) []impl.Heads {
	var heads []impl.Heads
	for n := 0; n < size; n++ {
		for _, other := range numbersFromTo(-1, size-1) {
			heads = append(heads, headsAt(n, n, other), headsAt(n, other, n), headsAt(other, n, n))
		}
	}
	return heads
}

func TestP78OtherDevicesHaveNoBlockToName(t *testing.T) {
	for _, d := range invalidDevices() {
		expectNoWear(t, d)
	}
}

// blocksOutOfPlace are blocks that are not valid: with every wrong Wear, and of every other kind.
func blocksOutOfPlace() []impl.Block {
	blocks := wrongBlocks()
	for _, wear := range invalidWear() {
		blocks = append(blocks, blockWith(wear, 0), blockWith(wear, 1), blockWith(wear, pagesOfBlock))
	}
	return blocks
}

// With another block at its place there would be a spread, a total, and a block to name.
func TestP78OnlyOneBlockIsWrong(t *testing.T) {
	for size := 3; size <= mostBlocks; size++ {
		for n := 0; n < size; n++ {
			d := writtenBlocks(sameButOne(size, 50, firstBeside(size, n), 0))
			expectWorn(t, d)
			expectRested(t, d, noHeads(), firstBeside(size, n))
			for _, wrong := range blocksOutOfPlace() {
				expectNoWear(t, withBlock(d, n, wrong))
			}
		}
	}
}

// Without its last block the device would have a spread, a total, and a block to name.
func TestP78OneBlockIsTooMany(t *testing.T) {
	for n := 0; n < mostBlocks; n++ {
		d := writtenBlocks(sameButOne(mostBlocks, 50, n, 0))
		expectRested(t, d, noHeads(), n)
		for many := 0; many <= pagesOfBlock; many++ {
			expectNoWear(t, append(slices.Clone(d), blockWith(50, many)))
			expectNoWear(t, append([]impl.Block{blockWith(50, many)}, d...))
		}
	}
}

// P42: new devices are empty.

func TestP42NewDevicesHaveNoWear(t *testing.T) {
	for many := 1; many <= mostBlocks; many++ {
		d := impl.NewDevice(many)
		expectDeviceValid(t, d, true)
		expectFree(t, d, many*pagesOfBlock)
		expectSpread(t, d, 0)
		expectTotal(t, d, 0)
		expectAllNamed(t, d)
		for at := 0; at < many*pagesOfBlock; at++ {
			expectRead(t, d, at, impl.Page{}, false)
		}
	}
}

func TestP42OtherNumbersMakeNoDeviceWithWear(t *testing.T) {
	for _, many := range []int{-1, 0, mostBlocks + 1, 100, math.MinInt, math.MinInt + 1, math.MaxInt - 1, math.MaxInt} {
		d := impl.NewDevice(many)
		if len(d) != 0 {
			t.Errorf("NewDevice(%d) = %+v", many, d)
		}
		expectNoWear(t, d)
	}
}

// P44: only one block is erased.

// expectWearAfterErasing expects what promise 44 says of a block of a valid device, or that all stays if the block is worn out.
func expectWearAfterErasing(t *testing.T, d []impl.Block, n int) {
	t.Helper()
	wear := d[n].Wear
	if wear == mostWear {
		expectEraseAt(t, d, n, d, false)
		return
	}
	expectEraseAt(t, d, n, withBlock(d, n, blockWith(wear+1, 0)), true)
	after, _ := impl.EraseAt(d, n)
	expectWorn(t, after)
	expectTotal(t, after, impl.WearTotal(d)+1)
	for other := range d {
		if other != n && !sameBlock(after[other], d[other]) {
			t.Errorf("EraseAt(%+v, %d) = %+v: the block %d is another one", d, n, after, other)
		}
	}
}

func TestP44ErasingMakesWearGreaterByOne(t *testing.T) {
	for _, d := range validDevices() {
		for n := range d {
			expectWearAfterErasing(t, d, n)
		}
	}
}

func TestP44ErasingAtEveryWear(t *testing.T) {
	for _, size := range []int{1, 2, 3, mostBlocks} {
		for _, n := range blocksOfSize(size) {
			for wear := 0; wear <= mostWear; wear++ {
				for many := 0; many <= pagesOfBlock; many++ {
					expectWearAfterErasing(t, wornBlocks(sameButOne(size, 40, n, wear), sameButOne(size, 2, n, many)), n)
				}
			}
		}
	}
}

// A block of MaxWear-1 can be erased once more: then it is worn out, and neither it nor the total changes.
func TestP44WornOutBlocksKeepTheirWear(t *testing.T) {
	for size := 1; size <= mostBlocks; size++ {
		for n := 0; n < size; n++ {
			d := writtenBlocks(sameButOne(size, 3, n, mostWear-1))
			worn, done := impl.EraseAt(d, n)
			if !done || worn[n].Wear != mostWear {
				t.Fatalf("EraseAt(%+v, %d) = %+v, %t", d, n, worn, done)
			}
			expectTotal(t, worn, 3*(size-1)+mostWear)
			again, done := impl.EraseAt(worn, n)
			if done || !sameDevice(again, worn) {
				t.Fatalf("EraseAt(%+v, %d) = %+v, %t", worn, n, again, done)
			}
			expectTotal(t, again, 3*(size-1)+mostWear)
			full := writtenBlocks(sameButOne(size, 3, n, mostWear))
			expectEraseAt(t, full, n, full, false)
		}
	}
}

func TestP44OfOtherBlocksThereIsNoWear(t *testing.T) {
	for size := 1; size <= mostBlocks; size++ {
		d := writtenBlocks(sameButOne(size, 50, size-1, 0))
		for _, n := range append(numbersBeside(size), math.MinInt+1, math.MaxInt-1) {
			expectEraseAt(t, d, n, nil, false)
			after, _ := impl.EraseAt(d, n)
			expectNoWear(t, after)
		}
	}
}

// What is given is not written to. The functions of the chapter return numbers: memory is returned by NewDevice and EraseAt alone, whose tests are those of chapter 5.

// wearHeads are heads for the tests on memory: none, valid ones of some sizes, and others.
func wearHeads() []impl.Heads {
	return []impl.Heads{noHeads(), headsAt(0, -1, -1), headsAt(-1, 0, -1), headsAt(-1, 1, 0), headsAt(2, 0, 1), headsAt(1, 1, -1), headsAt(-2, -1, 12)}
}

// wearCalls are all calls of the chapter.
func wearCalls() []deviceCall {
	calls := []deviceCall{
		{"WearSpread", func(d []impl.Block) []impl.Block { impl.WearSpread(d); return nil }},
		{"WearTotal", func(d []impl.Block) []impl.Block { impl.WearTotal(d); return nil }},
	}
	for _, h := range wearHeads() {
		calls = append(calls, deviceCall{"WearVictim", func(d []impl.Block) []impl.Block { impl.WearVictim(d, h); return nil }})
	}
	return calls
}

// devicesWithWear are devices for the tests on memory, also ones that have a block to name.
func devicesWithWear() [][]impl.Block {
	devices := devicesInMemory()
	for size := 2; size <= mostBlocks; size++ {
		for _, n := range blocksOfSize(size) {
			devices = append(devices, devicesOfWear(sameButOne(size, 50, n, 0))...)
		}
	}
	return devices
}

func TestDevicesGivenForWearAreNotWrittenTo(t *testing.T) {
	for _, c := range wearCalls() {
		for _, d := range devicesWithWear() {
			expectGivenNotWritten(t, c, d)
		}
	}
}

// The answers are the same when they are asked for again, with the heads as they were.
func TestWearIsToldAgain(t *testing.T) {
	for _, d := range devicesWithWear() {
		for _, h := range wearHeads() {
			given := h
			spread, total, victim := impl.WearSpread(d), impl.WearTotal(d), impl.WearVictim(d, given)
			if given != h {
				t.Fatalf("WearVictim(%+v, %+v) changes the heads to %+v", d, h, given)
			}
			expectRested(t, d, given, victim)
			expectTotal(t, d, total)
			expectSpread(t, d, spread)
		}
	}
}

// A device may be given whose blocks share their pages.
func TestBlocksGivenForWearMayShareMemory(t *testing.T) {
	for size := 1; size <= mostBlocks; size++ {
		for many := 0; many <= pagesOfBlock; many++ {
			shared := slices.Repeat([]impl.Block{blockWith(5, many)}, size)
			for _, wear := range []int{0, 5, 10, 11, mostWear} {
				shared[size-1].Wear = wear
				expectWorn(t, shared)
				expectAllNamed(t, shared)
			}
		}
	}
}
