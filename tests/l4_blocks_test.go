package tests

import (
	"math"
	"slices"
	"testing"

	"loop.example/flashfiles/impl"
)

const (
	pagesOfBlock = 4
	mostWear     = 100
)

// fourPages are written pages for a block: stamps need not ascend, and a page may be there twice.
func fourPages() []impl.Page {
	return []impl.Page{written(3, 2, 45, 67), written(0, 0, 0, 1), written(7, 5, 9999, 1000000), written(3, 2, 45, 67)}
}

// blockWith returns a block whose first pages are written.
func blockWith(wear int, many int) impl.Block {
	pages := make([]impl.Page, pagesOfBlock)
	copy(pages, fourPages()[:many])
	return impl.Block{Wear: wear, Pages: pages}
}

// withPage returns a block with another page at a number.
func withPage(b impl.Block, n int, p impl.Page) impl.Block {
	pages := slices.Clone(b.Pages)
	pages[n] = p
	return impl.Block{Wear: b.Wear, Pages: pages}
}

func sameBlock(a impl.Block, b impl.Block) bool {
	return a.Wear == b.Wear && slices.Equal(a.Pages, b.Pages)
}

// someWear is how often blocks were erased: least, ordinary, one less than the most, and the most.
func someWear() []int {
	return []int{0, 1, 50, mostWear - 1, mostWear}
}

func invalidWear() []int {
	return []int{-1, -2, -mostWear, mostWear + 1, mostWear + 2, math.MinInt, math.MaxInt}
}

// blocksOfWear are blocks with no page written, with some, and with all.
func blocksOfWear(wears []int) []impl.Block {
	var blocks []impl.Block
	for _, wear := range wears {
		for many := 0; many <= pagesOfBlock; many++ {
			blocks = append(blocks, blockWith(wear, many))
		}
	}
	return blocks
}

func validBlocks() []impl.Block {
	return blocksOfWear(someWear())
}

func blocksOutOfWear() []impl.Block {
	return blocksOfWear(invalidWear())
}

// blocksOfOtherSize are blocks without pages, with fewer and with more than there must be, not written and written.
func blocksOfOtherSize() []impl.Block {
	var blocks []impl.Block
	for _, wear := range someWear() {
		blocks = append(blocks, impl.Block{Wear: wear})
		for _, size := range []int{0, 1, 2, 3, 5, 6, 8} {
			empty := make([]impl.Page, size)
			full := slices.Repeat([]impl.Page{written(3, 2, 45, 67)}, size)
			blocks = append(blocks, impl.Block{Wear: wear, Pages: empty}, impl.Block{Wear: wear, Pages: full})
		}
		beginning := append(fourPages(), impl.Page{})
		blocks = append(blocks, impl.Block{Wear: wear, Pages: beginning})
	}
	return blocks
}

// blocksWithWrongPages are blocks with one page that is not valid, which is at the place of the next page or of a written one.
func blocksWithWrongPages() []impl.Block {
	var blocks []impl.Block
	for _, wear := range someWear() {
		for _, wrong := range invalidPages() {
			for n := 0; n < pagesOfBlock; n++ {
				blocks = append(blocks, withPage(blockWith(wear, n), n, wrong), withPage(blockWith(wear, pagesOfBlock), n, wrong))
			}
			last := pagesOfBlock - 1
			blocks = append(blocks, withPage(blockWith(wear, 0), last, wrong))
		}
	}
	return blocks
}

// blocksWithGaps are blocks of valid pages, with a written one after one that is not.
func blocksWithGaps() []impl.Block {
	var blocks []impl.Block
	for _, wear := range someWear() {
		for set := 0; set < 16; set++ {
			if _, ordered := writtenFirst(set); !ordered {
				blocks = append(blocks, blockOfSet(wear, set))
			}
		}
	}
	return blocks
}

// blockOfSet returns a block in which the pages are written whose numbers a set has.
func blockOfSet(wear int, set int) impl.Block {
	b := blockWith(wear, 0)
	for n, p := range fourPages() {
		if hasByHalving(set, n) {
			b.Pages[n] = p
		}
	}
	return b
}

// writtenFirst returns how many pages are written if their numbers are those of a set, and whether they are the first ones.
func writtenFirst(set int) (int, bool) {
	switch set {
	case 0:
		return 0, true
	case 1:
		return 1, true
	case 3:
		return 2, true
	case 7:
		return 3, true
	case 15:
		return 4, true
	default:
		return 0, false
	}
}

func invalidBlocks() []impl.Block {
	return slices.Concat(blocksOutOfWear(), blocksOfOtherSize(), blocksWithWrongPages(), blocksWithGaps())
}

// pagesNotToWrite are pages that are not valid, and the valid one that is not written.
func pagesNotToWrite() []impl.Page {
	return append(invalidPages(), impl.Page{})
}

func expectBlockValid(t *testing.T, b impl.Block, valid bool) {
	t.Helper()
	if got := impl.BlockValid(b); got != valid {
		t.Errorf("BlockValid(%+v) = %t", b, got)
	}
}

func expectNext(t *testing.T, b impl.Block, next int) {
	t.Helper()
	if got := impl.BlockNext(b); got != next {
		t.Errorf("BlockNext(%+v) = %d, not %d", b, got, next)
	}
}

func expectWrite(t *testing.T, b impl.Block, p impl.Page, after impl.Block, n int) {
	t.Helper()
	if gotAfter, got := impl.WriteBlock(b, p); got != n || !sameBlock(gotAfter, after) {
		t.Errorf("WriteBlock(%+v, %+v) = %+v, %d, not %+v, %d", b, p, gotAfter, got, after, n)
	}
}

func expectErase(t *testing.T, b impl.Block, after impl.Block, done bool) {
	t.Helper()
	if gotAfter, got := impl.EraseBlock(b); got != done || !sameBlock(gotAfter, after) {
		t.Errorf("EraseBlock(%+v) = %+v, %t, not %+v, %t", b, gotAfter, got, after, done)
	}
}

func TestLimitsOfBlocks(t *testing.T) {
	if impl.BlockPages != 4 || impl.MaxWear != 100 {
		t.Fatal(impl.BlockPages, impl.MaxWear)
	}
}

func TestP37BlocksWithoutPagesAreNotValid(t *testing.T) {
	for wear := -1; wear <= mostWear+1; wear++ {
		expectBlockValid(t, impl.Block{Wear: wear}, false)
		expectBlockValid(t, impl.Block{Wear: wear, Pages: []impl.Page{}}, false)
	}
}

func TestP37BlocksOfOtherSizeAreNotValid(t *testing.T) {
	for _, b := range blocksOfOtherSize() {
		expectBlockValid(t, b, false)
	}
}

func TestP37ValidBlocks(t *testing.T) {
	for _, b := range validBlocks() {
		expectBlockValid(t, b, true)
		// Never erased it is valid, too.
		b.Wear = 0
		expectBlockValid(t, b, true)
	}
}

func TestP37WearHasBounds(t *testing.T) {
	for many := 0; many <= pagesOfBlock; many++ {
		for wear := -3; wear <= mostWear+3; wear++ {
			expectBlockValid(t, blockWith(wear, many), wear >= 0 && wear <= mostWear)
		}
	}
	for _, b := range blocksOutOfWear() {
		expectBlockValid(t, b, false)
	}
}

func TestP37EveryPageIsValid(t *testing.T) {
	for _, p := range validPages() {
		for n := 0; n < pagesOfBlock; n++ {
			expectBlockValid(t, withPage(blockWith(5, n), n, p), true)
		}
	}
	for _, b := range blocksWithWrongPages() {
		expectBlockValid(t, b, false)
	}
}

func TestP37NoPageIsWrittenAfterOneThatIsNot(t *testing.T) {
	for _, wear := range someWear() {
		for set := 0; set < 16; set++ {
			_, ordered := writtenFirst(set)
			expectBlockValid(t, blockOfSet(wear, set), ordered)
		}
	}
}

func TestP38NewBlocksAreEmpty(t *testing.T) {
	for wear := 0; wear <= mostWear; wear++ {
		b := impl.NewBlock(wear)
		if want := (impl.Block{Wear: wear, Pages: make([]impl.Page, pagesOfBlock)}); !sameBlock(b, want) {
			t.Errorf("NewBlock(%d) = %+v, not %+v", wear, b, want)
		}
		expectBlockValid(t, b, true)
		expectNext(t, b, 0)
	}
}

func TestP38OtherNumbersMakeNoBlock(t *testing.T) {
	for _, wear := range invalidWear() {
		if b := impl.NewBlock(wear); !sameBlock(b, impl.Block{}) {
			t.Errorf("NewBlock(%d) = %+v", wear, b)
		}
	}
}

func TestP39NextPagesOfSomeBlocks(t *testing.T) {
	for _, wear := range someWear() {
		expectNext(t, blockWith(wear, 0), 0)
		expectNext(t, blockWith(wear, 1), 1)
		expectNext(t, blockWith(wear, 2), 2)
		expectNext(t, blockWith(wear, 3), 3)
		expectNext(t, blockWith(wear, 4), -1)
	}
}

func TestP39AllPagesBeforeTheNextOneAreWritten(t *testing.T) {
	for _, b := range validBlocks() {
		next := impl.BlockNext(b)
		if next == -1 {
			next = pagesOfBlock
		}
		for n, p := range b.Pages {
			if p.Full != (n < next) {
				t.Errorf("BlockNext(%+v) = %d, but whether page %d is written is %t", b, next, n, p.Full)
			}
		}
	}
}

func TestP39OtherBlocksHaveNoNextPage(t *testing.T) {
	for _, b := range invalidBlocks() {
		expectNext(t, b, -1)
	}
}

func TestP2WritesToSomeBlocks(t *testing.T) {
	p := written(1, 4, 20, 30)
	for _, wear := range someWear() {
		for many := 0; many < pagesOfBlock; many++ {
			b := blockWith(wear, many)
			expectWrite(t, b, p, withPage(b, many, p), many)
		}
	}
}

func TestP2WrittenPagesAreThere(t *testing.T) {
	for _, p := range validPages() {
		for _, b := range validBlocks() {
			if p.Full && !b.Pages[pagesOfBlock-1].Full {
				expectWrittenPage(t, b, p)
			}
		}
	}
}

// expectWrittenPage expects that a page is at its number in a block with room for it, all others are as before, and the next one follows.
func expectWrittenPage(t *testing.T, b impl.Block, p impl.Page) {
	t.Helper()
	next := impl.BlockNext(b)
	after, n := impl.WriteBlock(b, p)
	if n != next || n < 0 || len(after.Pages) != pagesOfBlock || after.Wear != b.Wear {
		t.Fatalf("WriteBlock(%+v, %+v) = %+v, %d, but the next page is %d", b, p, after, n, next)
	}
	for other := range after.Pages {
		if other != n && after.Pages[other] != b.Pages[other] {
			t.Errorf("WriteBlock(%+v, %+v) = %+v, %d changes page %d", b, p, after, n, other)
		}
	}
	if after.Pages[n] != p {
		t.Errorf("WriteBlock(%+v, %+v) = %+v, %d without the page", b, p, after, n)
	}
	following := n + 1
	if following == pagesOfBlock {
		following = -1
	}
	expectBlockValid(t, after, true)
	expectNext(t, after, following)
}

func TestP2PagesFollowEachOther(t *testing.T) {
	for wear := 0; wear <= mostWear; wear++ {
		b := impl.NewBlock(wear)
		for n, p := range fourPages() {
			after, got := impl.WriteBlock(b, p)
			if got != n || !sameBlock(after, blockWith(wear, n+1)) {
				t.Fatalf("WriteBlock(%+v, %+v) = %+v, %d", b, p, after, got)
			}
			b = after
		}
		expectWrite(t, b, written(1, 4, 20, 30), b, -1)
	}
}

func TestP2FullBlocksStay(t *testing.T) {
	for _, p := range validPages() {
		if !p.Full {
			continue
		}
		for _, wear := range someWear() {
			expectWrite(t, blockWith(wear, pagesOfBlock), p, blockWith(wear, pagesOfBlock), -1)
		}
	}
}

// A page that cannot be written is told first: it is the zero value for full blocks, too.
func TestP2OtherPagesAreNotWritten(t *testing.T) {
	for _, b := range validBlocks() {
		for _, p := range pagesNotToWrite() {
			expectWrite(t, b, p, impl.Block{}, -1)
		}
	}
}

func TestP2OtherBlocksAreNotWritten(t *testing.T) {
	for _, b := range invalidBlocks() {
		for _, p := range someWritten() {
			expectWrite(t, b, p, impl.Block{}, -1)
		}
		expectWrite(t, b, impl.Page{}, impl.Block{}, -1)
		expectWrite(t, b, impl.Page{Value: 1}, impl.Block{}, -1)
	}
}

func TestP40ErasedBlocksAreEmpty(t *testing.T) {
	for wear := 0; wear < mostWear; wear++ {
		for many := 0; many <= pagesOfBlock; many++ {
			b := blockWith(wear, many)
			expectErase(t, b, blockWith(wear+1, 0), true)
			after, _ := impl.EraseBlock(b)
			expectBlockValid(t, after, true)
			expectNext(t, after, 0)
		}
	}
}

func TestP40WornOutBlocksStay(t *testing.T) {
	for many := 0; many <= pagesOfBlock; many++ {
		b := blockWith(mostWear, many)
		expectErase(t, b, blockWith(mostWear, many), false)
	}
}

func TestP40BlocksCanBeErasedUntilTheyAreWornOut(t *testing.T) {
	b := impl.NewBlock(0)
	for wear := 0; wear < mostWear; wear++ {
		b, _ = impl.WriteBlock(b, written(1, 4, 20, 30))
		erased, done := impl.EraseBlock(b)
		if !done || erased.Wear != wear+1 {
			t.Fatalf("EraseBlock(%+v) = %+v, %t", b, erased, done)
		}
		b = erased
	}
	expectErase(t, b, blockWith(mostWear, 0), false)
	// Worn out, it can still be written, but stays so.
	full := b
	for _, p := range fourPages() {
		full, _ = impl.WriteBlock(full, p)
	}
	expectErase(t, full, blockWith(mostWear, pagesOfBlock), false)
}

func TestP40OtherBlocksAreNotErased(t *testing.T) {
	for _, b := range invalidBlocks() {
		expectErase(t, b, impl.Block{}, false)
	}
}

// blockCall is a function of the chapter with all arguments but the block, and the blocks that it returns.
type blockCall struct {
	name string
	call func(b impl.Block) []impl.Block
}

func blockCalls() []blockCall {
	calls := []blockCall{
		{"BlockValid", func(b impl.Block) []impl.Block { impl.BlockValid(b); return nil }},
		{"BlockNext", func(b impl.Block) []impl.Block { impl.BlockNext(b); return nil }},
		{"EraseBlock", func(b impl.Block) []impl.Block { after, _ := impl.EraseBlock(b); return []impl.Block{after} }},
	}
	for _, p := range []impl.Page{written(1, 4, 20, 30), {}, {Value: 1}} {
		calls = append(calls, blockCall{"WriteBlock", func(b impl.Block) []impl.Block {
			after, _ := impl.WriteBlock(b, p)
			return []impl.Block{after}
		}})
	}
	return calls
}

// withRoom returns a block whose pages have room behind them, and its pages together with that room.
func withRoom(b impl.Block) (impl.Block, []impl.Page) {
	room := append(slices.Clone(b.Pages), written(6, 3, 88, 99), written(6, 4, 88, 100))
	return impl.Block{Wear: b.Wear, Pages: room[:len(b.Pages)]}, room
}

// overwrite writes into all memory of some blocks, also behind their pages.
func overwrite(blocks []impl.Block) {
	for _, b := range blocks {
		all := b.Pages[:cap(b.Pages)]
		for n := range all {
			all[n] = written(5, 1, 1234, 4321)
		}
	}
}

func cloneBlocks(blocks []impl.Block) []impl.Block {
	var clones []impl.Block
	for _, b := range blocks {
		clones = append(clones, impl.Block{Wear: b.Wear, Pages: slices.Clone(b.Pages)})
	}
	return clones
}

func TestBlocksGivenAreNotWrittenTo(t *testing.T) {
	for _, c := range blockCalls() {
		for _, b := range append(validBlocks(), invalidBlocks()...) {
			given, room := withRoom(b)
			before := slices.Clone(room)
			c.call(given)
			if !slices.Equal(room, before) {
				t.Fatalf("%s(%+v) writes into it", c.name, b)
			}
		}
	}
}

func TestBlocksReturnedShareNoMemory(t *testing.T) {
	for _, c := range blockCalls() {
		for _, b := range append(validBlocks(), invalidBlocks()...) {
			given, room := withRoom(b)
			before := slices.Clone(room)
			other := c.call(given)
			otherBefore := cloneBlocks(other)
			overwrite(c.call(given))
			if !slices.Equal(room, before) {
				t.Fatalf("%s(%+v) shares memory with it", c.name, b)
			}
			if !slices.EqualFunc(other, otherBefore, sameBlock) {
				t.Fatalf("%s(%+v) shares memory with another result", c.name, b)
			}
		}
	}
}

func TestNewBlocksShareNoMemory(t *testing.T) {
	for wear := 0; wear <= mostWear; wear++ {
		other := impl.NewBlock(wear)
		overwrite([]impl.Block{impl.NewBlock(wear)})
		if !sameBlock(other, blockWith(wear, 0)) || !sameBlock(impl.NewBlock(wear), blockWith(wear, 0)) {
			t.Fatalf("NewBlock(%d) shares memory with another result", wear)
		}
	}
}
