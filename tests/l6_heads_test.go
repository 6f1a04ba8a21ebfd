package tests

import (
	"math"
	"slices"
	"testing"

	"loop.example/flashfiles/impl"
)

// The kinds of heat by their numbers in the document.
const (
	hot  = 0
	warm = 1
	cold = 2
)

func heatKinds() []int {
	return []int{hot, warm, cold}
}

func otherKinds() []int {
	return []int{hot - 1, cold + 1, -2, 4, math.MinInt, math.MaxInt}
}

func headsAt(hotAt int, warmAt int, coldAt int) impl.Heads {
	return impl.Heads{Hot: hotAt, Warm: warmAt, Cold: coldAt}
}

func noHeads() impl.Heads {
	return headsAt(-1, -1, -1)
}

// headList returns heads as a list, by the numbers of their kinds.
func headList(h impl.Heads) []int {
	return []int{h.Hot, h.Warm, h.Cold}
}

// changedHead returns heads with another block for one kind of heat.
func changedHead(h impl.Heads, heat int, n int) impl.Heads {
	list := headList(h)
	list[heat] = n
	return headsAt(list[0], list[1], list[2])
}

// headsFor returns the heads of a kind of heat, and of the two kinds that follow it.
func headsFor(heat int, own int, second int, third int) impl.Heads {
	h := changedHead(noHeads(), heat, own)
	h = changedHead(h, (heat+1)%3, second)
	return changedHead(h, (heat+2)%3, third)
}

// headsFrom are all heads of some numbers.
func headsFrom(numbers []int) []impl.Heads {
	var all []impl.Heads
	for _, a := range numbers {
		for _, b := range numbers {
			for _, c := range numbers {
				all = append(all, headsAt(a, b, c))
			}
		}
	}
	return all
}

// numbersFromTo are the numbers from one to another one.
func numbersFromTo(first int, last int) []int {
	var numbers []int
	for n := first; n <= last; n++ {
		numbers = append(numbers, n)
	}
	return numbers
}

// areHeads reckons whether heads are those of a device of so many blocks: every block can be one head at most.
func areHeads(size int, h impl.Heads) bool {
	taken := make([]bool, size)
	for _, n := range headList(h) {
		if n == -1 {
			continue
		}
		if n < 0 || n >= size || taken[n] {
			return false
		}
		taken[n] = true
	}
	return true
}

// headsOfSize are heads over so many blocks, of numbers in and beside them: valid ones, or others.
func headsOfSize(size int, valid bool) []impl.Heads {
	numbers := numbersFromTo(-2, size+1)
	if size > 4 {
		numbers = []int{-2, -1, 0, 1, size / 2, size - 1, size}
	}
	var heads []impl.Heads
	for _, h := range headsFrom(numbers) {
		if areHeads(size, h) == valid {
			heads = append(heads, h)
		}
	}
	return heads
}

// wornBlocks returns a device with blocks that were erased so often, with so many written pages.
func wornBlocks(wears []int, counts []int) []impl.Block {
	d := deviceOf(counts)
	for n := range d {
		d[n].Wear = wears[n]
	}
	return d
}

// listsOf are all lists of so many numbers out of some.
func listsOf(numbers []int, size int) [][]int {
	lists := [][]int{nil}
	for n := 0; n < size; n++ {
		var longer [][]int
		for _, list := range lists {
			for _, number := range numbers {
				longer = append(longer, append(slices.Clone(list), number))
			}
		}
		lists = longer
	}
	return lists
}

// smallDevices are all devices of one to three blocks with no page written, one, or all, whose blocks were erased equally often or not.
func smallDevices() [][]impl.Block {
	var devices [][]impl.Block
	for size := 1; size <= 3; size++ {
		for _, wears := range listsOf([]int{0, 7, mostWear}, size) {
			for _, counts := range listsOf([]int{0, 1, pagesOfBlock}, size) {
				devices = append(devices, wornBlocks(wears, counts))
			}
		}
	}
	return devices
}

// freshByWear reckons the fresh block: it looks for a wear after the other.
func freshByWear(d []impl.Block, h impl.Heads) int {
	for wear := 0; wear <= mostWear; wear++ {
		for n, b := range d {
			if b.Wear == wear && countFull(b.Pages) == 0 && !slices.Contains(headList(h), n) {
				return n
			}
		}
	}
	return -1
}

func expectHeadsValid(t *testing.T, d []impl.Block, h impl.Heads, valid bool) {
	t.Helper()
	if got := impl.HeadsValid(d, h); got != valid {
		t.Errorf("HeadsValid(%+v, %+v) = %t", d, h, got)
	}
}

func expectHead(t *testing.T, d []impl.Block, h impl.Heads, heat int, n int) {
	t.Helper()
	if got := impl.HeadOf(d, h, heat); got != n {
		t.Errorf("HeadOf(%+v, %+v, %d) = %d, not %d", d, h, heat, got, n)
	}
}

func expectFresh(t *testing.T, d []impl.Block, h impl.Heads, n int) {
	t.Helper()
	if got := impl.FreshBlock(d, h); got != n {
		t.Errorf("FreshBlock(%+v, %+v) = %d, not %d", d, h, got, n)
	}
}

func expectAppend(t *testing.T, d []impl.Block, h impl.Heads, heat int, p impl.Page, after []impl.Block, next impl.Heads, at int) {
	t.Helper()
	gotAfter, gotNext, got := impl.AppendPage(d, h, heat, p)
	if got != at || gotNext != next || !sameDevice(gotAfter, after) {
		t.Errorf("AppendPage(%+v, %+v, %d, %+v) = %+v, %+v, %d, not %+v, %+v, %d", d, h, heat, p, gotAfter, gotNext, got, after, next, at)
	}
}

// expectNotAppended expects what there is for arguments that are not valid.
func expectNotAppended(t *testing.T, d []impl.Block, h impl.Heads, heat int, p impl.Page) {
	t.Helper()
	expectAppend(t, d, h, heat, p, nil, impl.Heads{}, -1)
}

func TestKindsOfHeat(t *testing.T) {
	if impl.HeatHot != hot || impl.HeatWarm != warm || impl.HeatCold != cold {
		t.Fatal(impl.HeatHot, impl.HeatWarm, impl.HeatCold)
	}
}

func TestP46WithoutAnyBlockHeadsAreValid(t *testing.T) {
	for _, d := range validDevices() {
		expectHeadsValid(t, d, noHeads(), true)
	}
}

func TestP46HeadsWithoutABlockAreNotTheSame(t *testing.T) {
	for _, d := range validDevices() {
		last := len(d) - 1
		for _, heat := range heatKinds() {
			expectHeadsValid(t, d, changedHead(noHeads(), heat, 0), true)
			expectHeadsValid(t, d, changedHead(noHeads(), heat, last), true)
		}
	}
	d := deviceOf([]int{4, 1, 0})
	for _, heat := range heatKinds() {
		expectHeadsValid(t, d, changedHead(headsAt(0, 1, 2), heat, -1), true)
	}
}

func TestP46WithTheSameBlockTwiceHeadsAreNotValid(t *testing.T) {
	for _, d := range validDevices() {
		for n := range d {
			for _, other := range numbersFromTo(-1, len(d)-1) {
				expectHeadsValid(t, d, headsAt(n, n, other), false)
				expectHeadsValid(t, d, headsAt(n, other, n), false)
				expectHeadsValid(t, d, headsAt(other, n, n), false)
			}
		}
	}
}

func TestP46HeadsAreBlocks(t *testing.T) {
	for _, d := range validDevices() {
		size := len(d)
		heads := []impl.Heads{noHeads()}
		if size >= 3 {
			heads = append(heads, headsAt(0, 1, 2), headsAt(size-1, size-2, 0))
		}
		for _, h := range heads {
			expectHeadsValid(t, d, h, true)
			for _, heat := range heatKinds() {
				for _, n := range []int{-2, -3, -size, -size - 1, size, size + 1, 48, math.MinInt, math.MaxInt} {
					// Of one block, -size is the number for no head.
					if n != -1 {
						expectHeadsValid(t, d, changedHead(h, heat, n), false)
					}
				}
			}
		}
	}
}

func TestP46AllHeadsOfDevices(t *testing.T) {
	for size := 1; size <= mostBlocks; size++ {
		heads := headsFrom(numbersFromTo(-2, size+1))
		for _, d := range [][]impl.Block{deviceOf(make([]int, size)), deviceOf(slices.Repeat([]int{pagesOfBlock}, size))} {
			for _, h := range heads {
				expectHeadsValid(t, d, h, areHeads(size, h))
			}
		}
	}
}

func TestP46OtherDevicesHaveNoHeads(t *testing.T) {
	for _, d := range invalidDevices() {
		for _, h := range []impl.Heads{noHeads(), headsAt(0, -1, -1), headsAt(-1, 0, -1), headsAt(-1, -1, 0), headsAt(0, 1, 2), {}} {
			expectHeadsValid(t, d, h, false)
		}
	}
}

func TestP47HeadsOfSomeDevices(t *testing.T) {
	d := deviceOf([]int{4, 1, 0})
	for heat, n := range []int{2, 0, 1} {
		expectHead(t, d, headsAt(2, 0, 1), heat, n)
	}
	for heat, n := range []int{-1, 2, -1} {
		expectHead(t, d, headsAt(-1, 2, -1), heat, n)
	}
	one := deviceOf([]int{0})
	for heat, n := range []int{-1, -1, 0} {
		expectHead(t, one, headsAt(-1, -1, 0), heat, n)
	}
}

func TestP47HeadsHaveKinds(t *testing.T) {
	for _, d := range validDevices() {
		for _, h := range headsOfSize(len(d), true) {
			for heat, n := range headList(h) {
				expectHead(t, d, h, heat, n)
			}
		}
	}
}

func TestP47OtherKindsHaveNoHead(t *testing.T) {
	for _, d := range validDevices() {
		heads := []impl.Heads{noHeads(), headsAt(0, -1, -1), headsAt(-1, 0, -1), headsAt(-1, -1, 0)}
		if len(d) >= 3 {
			heads = append(heads, headsAt(0, 1, 2))
		}
		for _, h := range heads {
			for _, heat := range otherKinds() {
				expectHead(t, d, h, heat, -1)
			}
		}
	}
}

func TestP47OtherHeadsHaveNoBlocks(t *testing.T) {
	for size := 1; size <= mostBlocks; size++ {
		d := deviceOf(make([]int, size))
		for _, h := range headsOfSize(size, false) {
			for heat := hot - 1; heat <= cold+1; heat++ {
				expectHead(t, d, h, heat, -1)
			}
		}
	}
}

func TestP47OtherDevicesHaveNoHeads(t *testing.T) {
	for _, d := range invalidDevices() {
		for heat := hot - 1; heat <= cold+1; heat++ {
			expectHead(t, d, noHeads(), heat, -1)
			expectHead(t, d, headsAt(0, 1, 2), heat, -1)
			expectHead(t, d, impl.Heads{}, heat, -1)
		}
	}
}

func TestP48FreshBlocksOfSomeDevices(t *testing.T) {
	d := wornBlocks([]int{9, 3, 5, 3, 1}, []int{0, 0, 0, 0, 1})
	// The blocks 1 and 3 were erased equally often: the first one is taken.
	expectFresh(t, d, noHeads(), 1)
	expectFresh(t, d, headsAt(0, 2, 4), 1)
	expectFresh(t, d, headsAt(-1, 3, -1), 1)
	// The least worn one is a head.
	expectFresh(t, d, headsAt(1, -1, -1), 3)
	expectFresh(t, d, headsAt(-1, 1, -1), 3)
	expectFresh(t, d, headsAt(-1, -1, 1), 3)
	expectFresh(t, d, headsAt(3, 1, -1), 2)
	expectFresh(t, d, headsAt(3, 2, 1), 0)
	// None is left.
	expectFresh(t, wornBlocks([]int{9, 3}, []int{1, 4}), noHeads(), -1)
	expectFresh(t, wornBlocks([]int{9, 3}, []int{0, 4}), headsAt(-1, 0, -1), -1)
	expectFresh(t, wornBlocks([]int{9, 3, 5}, []int{0, 0, 0}), headsAt(2, 0, 1), -1)
}

func TestP48OfBlocksErasedEquallyOftenTheFirstOneIsFresh(t *testing.T) {
	for size := 1; size <= mostBlocks; size++ {
		for _, wear := range someWear() {
			wears := slices.Repeat([]int{wear}, size)
			for first := 0; first < size; first++ {
				counts := make([]int, size)
				for n := 0; n < first; n++ {
					counts[n] = 1 + n%pagesOfBlock
				}
				expectFresh(t, wornBlocks(wears, counts), noHeads(), first)
			}
			expectFresh(t, wornBlocks(wears, slices.Repeat([]int{1}, size)), noHeads(), -1)
			expectFresh(t, wornBlocks(wears, slices.Repeat([]int{pagesOfBlock}, size)), noHeads(), -1)
		}
	}
}

func TestP48ABlockWithAWrittenPageIsNotFresh(t *testing.T) {
	for size := 2; size <= mostBlocks; size++ {
		for many := 1; many <= pagesOfBlock; many++ {
			for n := 0; n < size; n++ {
				wears := slices.Repeat([]int{50}, size)
				wears[n] = 0
				counts := make([]int, size)
				counts[n] = many
				// Though erased least often, the block n is not taken.
				fresh := 0
				if n == 0 {
					fresh = 1
				}
				expectFresh(t, wornBlocks(wears, counts), noHeads(), fresh)
			}
		}
	}
}

// A worn out block can still be written: it is fresh where no other block is.
func TestP48WornOutBlocksAreFresh(t *testing.T) {
	expectFresh(t, wornBlocks([]int{mostWear}, []int{0}), noHeads(), 0)
	expectFresh(t, wornBlocks([]int{mostWear, mostWear - 1}, []int{0, 0}), noHeads(), 1)
	expectFresh(t, wornBlocks([]int{mostWear, mostWear - 1}, []int{0, 0}), headsAt(1, -1, -1), 0)
}

func TestP48FreshBlocksAreEmpty(t *testing.T) {
	for _, d := range append(smallDevices(), validDevices()...) {
		for _, h := range headsOfSize(len(d), true) {
			expectFresh(t, d, h, freshByWear(d, h))
			expectEmptiest(t, d, h, impl.FreshBlock(d, h))
		}
	}
}

// expectEmptiest expects that a block is empty and no head, and that no block that is so, too, has less wear; without one, that none is.
func expectEmptiest(t *testing.T, d []impl.Block, h impl.Heads, fresh int) {
	t.Helper()
	if fresh >= 0 && !canBeFresh(d, h, fresh) {
		t.Errorf("FreshBlock(%+v, %+v) = %d, which is not empty, or a head", d, h, fresh)
	}
	for n, b := range d {
		if canBeFresh(d, h, n) && (fresh < 0 || b.Wear < d[fresh].Wear) {
			t.Errorf("FreshBlock(%+v, %+v) = %d, not %d", d, h, fresh, n)
		}
	}
}

func canBeFresh(d []impl.Block, h impl.Heads, n int) bool {
	return countFull(d[n].Pages) == 0 && !slices.Contains(headList(h), n)
}

func TestP48WithOtherHeadsNoBlockIsFresh(t *testing.T) {
	for size := 1; size <= mostBlocks; size++ {
		d := deviceOf(make([]int, size))
		for _, h := range headsOfSize(size, false) {
			expectFresh(t, d, h, -1)
		}
	}
}

func TestP48OtherDevicesHaveNoFreshBlock(t *testing.T) {
	for _, d := range invalidDevices() {
		expectFresh(t, d, noHeads(), -1)
		expectFresh(t, d, headsAt(0, 1, 2), -1)
		expectFresh(t, d, impl.Heads{}, -1)
	}
}

// withNext returns a device with a page written as the next one of a block.
func withNext(d []impl.Block, n int, p impl.Page) []impl.Block {
	return withBlock(d, n, withPage(d[n], countFull(d[n].Pages), p))
}

func TestP4HeadsWithPagesLeftAreWritten(t *testing.T) {
	p := written(1, 4, 20, 30)
	d := deviceOf([]int{0, 1, 2, 3, 0})
	h := headsAt(3, 1, 2)
	for heat, at := range []int{15, 5, 10} {
		expectAppend(t, d, h, heat, p, withNext(d, at/pagesOfBlock, p), h, at)
	}
	// A head may be empty, too: though worn more, it is written, and not a fresh block.
	for _, heat := range heatKinds() {
		onlyOne := changedHead(noHeads(), heat, 4)
		expectAppend(t, d, onlyOne, heat, p, withNext(d, 4, p), onlyOne, 16)
	}
}

func TestP4FreshBlocksFollowFullHeads(t *testing.T) {
	p := written(1, 4, 20, 30)
	d := wornBlocks([]int{0, 9, 3, 5, 3, 1}, []int{4, 0, 0, 4, 0, 4})
	h := headsAt(0, 5, 3)
	for _, heat := range heatKinds() {
		expectAppend(t, d, h, heat, p, withNext(d, 2, p), changedHead(h, heat, 2), 8)
	}
}

func TestP4FreshBlocksBecomeTheFirstHeads(t *testing.T) {
	p := written(1, 4, 20, 30)
	d := wornBlocks([]int{9, 3, 5, 3}, []int{0, 0, 0, 0})
	for _, heat := range heatKinds() {
		expectAppend(t, d, noHeads(), heat, p, withNext(d, 1, p), changedHead(noHeads(), heat, 1), 4)
		// The heads of the other kinds are not taken.
		expectAppend(t, d, headsFor(heat, -1, 1, 3), heat, p, withNext(d, 2, p), headsFor(heat, 2, 1, 3), 8)
		expectAppend(t, d, headsFor(heat, -1, 3, -1), heat, p, withNext(d, 1, p), headsFor(heat, 1, 3, -1), 4)
	}
}

func TestP4AfterTheLastPageOfAHeadAFreshBlockFollows(t *testing.T) {
	first := written(1, 4, 20, 30)
	second := written(2, 3, 40, 31)
	d := wornBlocks([]int{0, 2, 1, 5, 6}, []int{3, 3, 3, 0, 0})
	h := headsAt(1, 2, 0)
	for heat, n := range headList(h) {
		last := withNext(d, n, first)
		expectAppend(t, d, h, heat, first, last, h, n*pagesOfBlock+3)
		after, next, _ := impl.AppendPage(d, h, heat, first)
		expectAppend(t, after, next, heat, second, withNext(last, 3, second), changedHead(h, heat, 3), 12)
	}
}

func TestP4WithoutAFreshBlockAllStays(t *testing.T) {
	p := written(1, 4, 20, 30)
	d := deviceOf([]int{4, 1, 4, 2})
	// The only empty block of the other device is a head of another kind.
	empty := deviceOf([]int{4, 0})
	for _, heat := range heatKinds() {
		for _, full := range []impl.Heads{noHeads(), headsFor(heat, 2, -1, 1), headsFor(heat, -1, 0, 3)} {
			expectAppend(t, d, full, heat, p, d, full, -1)
		}
		for _, taken := range []impl.Heads{headsFor(heat, -1, 1, -1), headsFor(heat, 0, -1, 1)} {
			expectAppend(t, empty, taken, heat, p, empty, taken, -1)
		}
	}
}

// expectAppended expects what the document says about valid arguments, and what promise 4 does.
func expectAppended(t *testing.T, d []impl.Block, h impl.Heads, heat int, p impl.Page) {
	t.Helper()
	n := headList(h)[heat]
	if n == -1 || countFull(d[n].Pages) == pagesOfBlock {
		n = freshByWear(d, h)
	}
	if n == -1 {
		expectAppend(t, d, h, heat, p, d, h, -1)
		return
	}
	at := n*pagesOfBlock + countFull(d[n].Pages)
	expectAppend(t, d, h, heat, p, withNext(d, n, p), changedHead(h, heat, n), at)
	expectInTheHead(t, d, h, heat, p)
}

// expectInTheHead expects that an appended page is read at its number, in its head, one page less is free, and the other heads are as before.
func expectInTheHead(t *testing.T, d []impl.Block, h impl.Heads, heat int, p impl.Page) {
	t.Helper()
	after, next, at := impl.AppendPage(d, h, heat, p)
	expectDeviceValid(t, after, true)
	expectHeadsValid(t, after, next, true)
	expectRead(t, after, at, p, true)
	expectHead(t, after, next, heat, at/pagesOfBlock)
	expectFree(t, after, impl.FreePages(d)-1)
	for _, other := range heatKinds() {
		if other != heat {
			expectHead(t, after, next, other, headList(h)[other])
		}
	}
}

func TestP4AppendedPagesAreInTheHead(t *testing.T) {
	for _, d := range append(smallDevices(), validDevices()...) {
		for _, h := range headsOfSize(len(d), true) {
			for _, heat := range heatKinds() {
				expectAppended(t, d, h, heat, written(1, 4, 20, 30))
			}
		}
	}
}

func TestP4EveryWrittenPageCanBeAppended(t *testing.T) {
	for _, p := range validPages() {
		if !p.Full {
			continue
		}
		for _, heat := range heatKinds() {
			expectAppended(t, deviceOf([]int{0}), noHeads(), heat, p)
			expectAppended(t, deviceOf([]int{4, 1, 0}), changedHead(noHeads(), heat, 1), heat, p)
			expectAppended(t, deviceOf([]int{4, 1, 0}), changedHead(noHeads(), heat, 0), heat, p)
			expectAppended(t, deviceOf([]int{4, 1}), changedHead(noHeads(), heat, 0), heat, p)
		}
	}
}

func TestP4DevicesCanBeFilledByOneKind(t *testing.T) {
	for size := 1; size <= mostBlocks; size++ {
		for _, heat := range heatKinds() {
			d := impl.NewDevice(size)
			h := noHeads()
			for at := 0; at < size*pagesOfBlock; at++ {
				after, next, got := impl.AppendPage(d, h, heat, pageAt(at))
				if got != at || next != changedHead(noHeads(), heat, at/pagesOfBlock) {
					t.Fatalf("AppendPage(%+v, %+v, %d, %+v) = %+v, %+v, %d", d, h, heat, pageAt(at), after, next, got)
				}
				d = after
				h = next
			}
			for at := 0; at < size*pagesOfBlock; at++ {
				expectRead(t, d, at, pageAt(at), true)
			}
			expectAppend(t, d, h, heat, pageAt(0), d, h, -1)
		}
	}
}

func TestP4DevicesCanBeFilledByAllKinds(t *testing.T) {
	for size := 3; size <= mostBlocks; size += 3 {
		d := impl.NewDevice(size)
		h := noHeads()
		for k := 0; k < size*pagesOfBlock; k++ {
			heat := k % 3
			round := k / 3
			// The kinds take three blocks by turns, of four pages each.
			n := round/pagesOfBlock*3 + heat
			at := n*pagesOfBlock + round%pagesOfBlock
			expectAppend(t, d, h, heat, pageAt(at), withNext(d, n, pageAt(at)), changedHead(h, heat, n), at)
			d, h, _ = impl.AppendPage(d, h, heat, pageAt(at))
		}
		expectFree(t, d, 0)
		for _, heat := range heatKinds() {
			expectAppend(t, d, h, heat, pageAt(0), d, h, -1)
		}
	}
}

// headsWithAndWithoutRoom are heads of the first block of a device, of the last one, and of none.
func headsWithAndWithoutRoom(d []impl.Block) []impl.Heads {
	heads := []impl.Heads{noHeads()}
	for _, heat := range heatKinds() {
		heads = append(heads, changedHead(noHeads(), heat, 0), changedHead(noHeads(), heat, len(d)-1))
	}
	return heads
}

// A page that cannot be written is told first: nothing comes back where no block is fresh, too.
func TestP4OtherPagesAreNotAppended(t *testing.T) {
	for _, size := range []int{1, 2, mostBlocks} {
		for _, d := range devicesOfSize(size) {
			for _, h := range headsWithAndWithoutRoom(d) {
				for _, p := range pagesNotToWrite() {
					for _, heat := range heatKinds() {
						expectNotAppended(t, d, h, heat, p)
					}
				}
			}
		}
	}
}

func TestP4PagesOfOtherKindsAreNotAppended(t *testing.T) {
	for _, d := range validDevices() {
		for _, h := range headsWithAndWithoutRoom(d) {
			for _, heat := range otherKinds() {
				expectNotAppended(t, d, h, heat, written(1, 4, 20, 30))
			}
		}
	}
}

func TestP4WithOtherHeadsNoPageIsAppended(t *testing.T) {
	for size := 1; size <= mostBlocks; size++ {
		for _, d := range devicesOfSize(size) {
			for _, h := range headsOfSize(size, false) {
				for _, heat := range heatKinds() {
					expectNotAppended(t, d, h, heat, written(1, 4, 20, 30))
				}
			}
		}
	}
}

func TestP4ToOtherDevicesNoPageIsAppended(t *testing.T) {
	for _, d := range invalidDevices() {
		for heat := hot - 1; heat <= cold+1; heat++ {
			for _, h := range []impl.Heads{noHeads(), changedHead(noHeads(), cold, 0), headsAt(0, 1, 2), {}} {
				expectNotAppended(t, d, h, heat, written(1, 4, 20, 30))
			}
			expectNotAppended(t, d, noHeads(), heat, impl.Page{})
		}
	}
}

// headCalls are calls of the chapter's functions with every kind of heads: none, of the first and of the last block, and ones that are not valid.
func headCalls() []deviceCall {
	var calls []deviceCall
	for _, place := range []string{"before", "first", "last", "behind"} {
		for _, heat := range append(heatKinds(), hot-1, cold+1) {
			calls = append(calls, callsWithHead(place, heat)...)
		}
	}
	return calls
}

// callsWithHead are calls with one head, which is at a place of the device, and for a kind of heat where there is such a kind.
func callsWithHead(place string, heat int) []deviceCall {
	heads := func(d []impl.Block) impl.Heads {
		return changedHead(noHeads(), min(max(heat, hot), cold), blockAt(d, place))
	}
	calls := []deviceCall{
		{"HeadsValid " + place, func(d []impl.Block) []impl.Block { impl.HeadsValid(d, heads(d)); return nil }},
		{"HeadOf " + place, func(d []impl.Block) []impl.Block { impl.HeadOf(d, heads(d), heat); return nil }},
		{"FreshBlock " + place, func(d []impl.Block) []impl.Block { impl.FreshBlock(d, heads(d)); return nil }},
	}
	for _, p := range []impl.Page{written(1, 4, 20, 30), {}, {Value: 1}} {
		calls = append(calls, deviceCall{"AppendPage " + place, func(d []impl.Block) []impl.Block {
			after, _, _ := impl.AppendPage(d, heads(d), heat, p)
			return after
		}})
	}
	return calls
}

func TestDevicesGivenWithHeadsAreNotWrittenTo(t *testing.T) {
	for _, c := range headCalls() {
		for _, d := range devicesInMemory() {
			expectGivenNotWritten(t, c, d)
		}
	}
}

func TestDevicesReturnedWithHeadsShareNoMemory(t *testing.T) {
	for _, c := range headCalls() {
		for _, d := range devicesInMemory() {
			expectNewMemory(t, c, d)
			expectBlocksApart(t, c.name, c.call(d))
		}
	}
}

// A device may be given whose blocks share their pages: what is returned with heads must not do so.
func TestBlocksGivenWithHeadsMayShareMemory(t *testing.T) {
	p := written(1, 4, 20, 30)
	for size := 1; size <= mostBlocks; size++ {
		for many := 0; many <= pagesOfBlock; many++ {
			shared := slices.Repeat([]impl.Block{blockWith(5, many)}, size)
			for _, heat := range heatKinds() {
				h := changedHead(noHeads(), heat, size-1)
				expectAppended(t, shared, h, heat, p)
				after, _, _ := impl.AppendPage(shared, h, heat, p)
				expectBlocksApart(t, "AppendPage", after)
				expectAppended(t, shared, noHeads(), heat, p)
				after, _, _ = impl.AppendPage(shared, noHeads(), heat, p)
				expectBlocksApart(t, "AppendPage", after)
			}
		}
	}
}
