package tests

import (
	"math"
	"slices"
	"testing"

	"loop.example/flashfiles/impl"
)

const mostBlocks = 12

// pageAt returns a written page that is at one number of the devices of the tests only.
func pageAt(at int) impl.Page {
	return written(at%8, at%6, 100+at, 1000-at)
}

// deviceOf returns a device with a block for each number of written pages. No two blocks have the same wear, and no two written pages are the same.
func deviceOf(counts []int) []impl.Block {
	var d []impl.Block
	for n, many := range counts {
		b := blockWith(3*n, 0)
		for place := 0; place < many; place++ {
			b.Pages[place] = pageAt(n*pagesOfBlock + place)
		}
		d = append(d, b)
	}
	return d
}

// withBlock returns a device with another block at a number.
func withBlock(d []impl.Block, n int, b impl.Block) []impl.Block {
	other := cloneBlocks(d)
	other[n] = b
	return other
}

// wornAt returns a device whose block n is worn out.
func wornAt(d []impl.Block, n int) []impl.Block {
	return withBlock(d, n, impl.Block{Wear: mostWear, Pages: slices.Clone(d[n].Pages)})
}

func sameDevice(a []impl.Block, b []impl.Block) bool {
	return slices.EqualFunc(a, b, sameBlock)
}

// countsOf are numbers of written pages for so many blocks: none, all, one block unlike the others, and all mixed.
func countsOf(size int) [][]int {
	none := make([]int, size)
	all := slices.Repeat([]int{pagesOfBlock}, size)
	counts := [][]int{none, all}
	for _, n := range []int{0, size - 1} {
		oneFull := slices.Clone(none)
		oneFull[n] = pagesOfBlock
		oneEmpty := slices.Clone(all)
		oneEmpty[n] = 0
		counts = append(counts, oneFull, oneEmpty)
	}
	for shift := 0; shift <= pagesOfBlock; shift++ {
		mixed := make([]int, size)
		for n := range mixed {
			mixed[n] = (n + shift) % (pagesOfBlock + 1)
		}
		counts = append(counts, mixed)
	}
	return counts
}

func devicesOfSize(size int) [][]impl.Block {
	var devices [][]impl.Block
	for _, counts := range countsOf(size) {
		devices = append(devices, deviceOf(counts))
	}
	return devices
}

// validDevices are devices of every size, with no block worn out, the first one, the last one, or all.
func validDevices() [][]impl.Block {
	var devices [][]impl.Block
	for size := 1; size <= mostBlocks; size++ {
		for _, d := range devicesOfSize(size) {
			allWorn := d
			for n := range d {
				allWorn = wornAt(allWorn, n)
			}
			devices = append(devices, d, wornAt(d, 0), wornAt(d, size-1), allWorn)
		}
	}
	return devices
}

// wrongBlocks are some blocks that are not valid, of every kind.
func wrongBlocks() []impl.Block {
	full := blockWith(5, pagesOfBlock)
	half := blockWith(5, 2)
	return []impl.Block{
		{},
		{Wear: 5},
		blockWith(-1, 0),
		blockWith(-1, pagesOfBlock),
		blockWith(mostWear+1, 0),
		blockWith(mostWear+1, 2),
		{Wear: 5, Pages: full.Pages[:3]},
		{Wear: 5, Pages: make([]impl.Page, 5)},
		{Wear: 5, Pages: append(fourPages(), written(1, 4, 20, 30))},
		withPage(half, 2, impl.Page{Value: 1}),
		withPage(full, 3, written(8, 0, 0, 1)),
		withPage(full, 0, written(0, 0, 0, 0)),
		withPage(full, 0, impl.Page{}),
		withPage(half, 3, written(1, 4, 20, 30)),
	}
}

// devicesOfOtherSize are devices without blocks, and with more than there can be.
func devicesOfOtherSize() [][]impl.Block {
	devices := [][]impl.Block{nil, {}}
	for _, size := range []int{mostBlocks + 1, mostBlocks + 2, 2 * mostBlocks} {
		devices = append(devices, devicesOfSize(size)...)
	}
	return devices
}

// devicesWithWrongBlocks are devices with one block that is not valid, at every number.
func devicesWithWrongBlocks() [][]impl.Block {
	var devices [][]impl.Block
	for _, size := range []int{1, 2, 3, mostBlocks} {
		for _, d := range devicesOfSize(size) {
			for n := range d {
				for _, wrong := range wrongBlocks() {
					devices = append(devices, withBlock(d, n, wrong))
				}
			}
		}
	}
	return devices
}

func invalidDevices() [][]impl.Block {
	return append(devicesOfOtherSize(), devicesWithWrongBlocks()...)
}

// numbersBeside are numbers that none of so many blocks or pages has: below 0, and from the one behind the last one on.
func numbersBeside(many int) []int {
	return []int{-1, -2, -pagesOfBlock, -pagesOfBlock - 1, -many, many, many + 1, many + pagesOfBlock, 2 * many, math.MinInt, math.MaxInt}
}

func allPages(d []impl.Block) []impl.Page {
	var pages []impl.Page
	for _, b := range d {
		pages = append(pages, b.Pages...)
	}
	return pages
}

func countFull(pages []impl.Page) int {
	count := 0
	for _, p := range pages {
		if p.Full {
			count++
		}
	}
	return count
}

func allWear(d []impl.Block) int {
	wear := 0
	for _, b := range d {
		wear += b.Wear
	}
	return wear
}

func expectDeviceValid(t *testing.T, d []impl.Block, valid bool) {
	t.Helper()
	if got := impl.DeviceValid(d); got != valid {
		t.Errorf("DeviceValid(%+v) = %t", d, got)
	}
}

func expectRead(t *testing.T, d []impl.Block, at int, p impl.Page, full bool) {
	t.Helper()
	if gotPage, got := impl.ReadPage(d, at); got != full || gotPage != p {
		t.Errorf("ReadPage(%+v, %d) = %+v, %t, not %+v, %t", d, at, gotPage, got, p, full)
	}
}

func expectProgram(t *testing.T, d []impl.Block, n int, p impl.Page, after []impl.Block, at int) {
	t.Helper()
	if gotAfter, got := impl.Program(d, n, p); got != at || !sameDevice(gotAfter, after) {
		t.Errorf("Program(%+v, %d, %+v) = %+v, %d, not %+v, %d", d, n, p, gotAfter, got, after, at)
	}
}

func expectEraseAt(t *testing.T, d []impl.Block, n int, after []impl.Block, done bool) {
	t.Helper()
	if gotAfter, got := impl.EraseAt(d, n); got != done || !sameDevice(gotAfter, after) {
		t.Errorf("EraseAt(%+v, %d) = %+v, %t, not %+v, %t", d, n, gotAfter, got, after, done)
	}
}

func expectFree(t *testing.T, d []impl.Block, free int) {
	t.Helper()
	if got := impl.FreePages(d); got != free {
		t.Errorf("FreePages(%+v) = %d, not %d", d, got, free)
	}
}

func TestLimitsOfDevices(t *testing.T) {
	if impl.MaxBlocks != 12 {
		t.Fatal(impl.MaxBlocks)
	}
}

func TestP41NumbersOfBlocksHaveBounds(t *testing.T) {
	expectDeviceValid(t, nil, false)
	expectDeviceValid(t, []impl.Block{}, false)
	for size := 1; size <= mostBlocks+3; size++ {
		for _, d := range devicesOfSize(size) {
			expectDeviceValid(t, d, size <= mostBlocks)
		}
	}
	for _, d := range devicesOfOtherSize() {
		expectDeviceValid(t, d, false)
	}
}

func TestP41ValidDevices(t *testing.T) {
	for _, d := range validDevices() {
		expectDeviceValid(t, d, true)
	}
}

func TestP41OfItsFirstBlockAloneADeviceIsValid(t *testing.T) {
	for _, d := range validDevices() {
		expectDeviceValid(t, d[:1], true)
	}
}

func TestP41EveryValidBlockIsOneOfADevice(t *testing.T) {
	for _, size := range []int{1, 2, mostBlocks} {
		d := deviceOf(slices.Repeat([]int{2}, size))
		for _, b := range validBlocks() {
			expectDeviceValid(t, withBlock(d, 0, b), true)
			expectDeviceValid(t, withBlock(d, size-1, b), true)
		}
	}
}

func TestP41WithAWrongBlockADeviceIsNotValid(t *testing.T) {
	for _, d := range devicesWithWrongBlocks() {
		expectDeviceValid(t, d, false)
	}
}

func TestP41WithAnyWrongBlockFirstOrLastADeviceIsNotValid(t *testing.T) {
	for _, size := range []int{1, 2, mostBlocks} {
		d := deviceOf(slices.Repeat([]int{2}, size))
		for _, wrong := range invalidBlocks() {
			expectDeviceValid(t, withBlock(d, 0, wrong), false)
			expectDeviceValid(t, withBlock(d, size-1, wrong), false)
		}
	}
}

func TestP42NewDevicesAreEmpty(t *testing.T) {
	for many := 1; many <= mostBlocks; many++ {
		d := impl.NewDevice(many)
		if want := slices.Repeat([]impl.Block{blockWith(0, 0)}, many); !sameDevice(d, want) {
			t.Errorf("NewDevice(%d) = %+v, not %+v", many, d, want)
		}
		expectDeviceValid(t, d, true)
		expectFree(t, d, many*pagesOfBlock)
	}
}

func TestP42OtherNumbersMakeNoDevice(t *testing.T) {
	for _, many := range []int{0, -1, -2, -mostBlocks, mostBlocks + 1, mostBlocks + 2, 100, math.MinInt, math.MaxInt} {
		if d := impl.NewDevice(many); len(d) != 0 {
			t.Errorf("NewDevice(%d) = %+v", many, d)
		}
	}
}

func TestP43PagesOfADevice(t *testing.T) {
	d := deviceOf([]int{4, 1, 0})
	for at := 0; at <= 4; at++ {
		expectRead(t, d, at, pageAt(at), true)
	}
	for at := 5; at <= 11; at++ {
		expectRead(t, d, at, impl.Page{}, false)
	}
	expectRead(t, d, -1, impl.Page{}, false)
	expectRead(t, d, 12, impl.Page{}, false)
}

func TestP43ReadPagesArePagesOfBlocks(t *testing.T) {
	for _, d := range validDevices() {
		for at, p := range allPages(d) {
			expectRead(t, d, at, p, p.Full)
		}
	}
}

func TestP43EveryWrittenPageCanBeRead(t *testing.T) {
	for _, size := range []int{1, 2, mostBlocks} {
		for n := 0; n < size; n++ {
			for _, p := range validPages() {
				d := withBlock(deviceOf(make([]int, size)), n, withPage(blockWith(5, 0), 0, p))
				expectRead(t, d, n*pagesOfBlock, p, p.Full)
			}
		}
	}
}

func TestP43NumbersOfPagesHaveBounds(t *testing.T) {
	for _, d := range validDevices() {
		for _, at := range numbersBeside(len(d) * pagesOfBlock) {
			expectRead(t, d, at, impl.Page{}, false)
		}
	}
}

func TestP43OtherDevicesHaveNoPages(t *testing.T) {
	for _, d := range invalidDevices() {
		for at := -1; at <= len(d)*pagesOfBlock; at++ {
			expectRead(t, d, at, impl.Page{}, false)
		}
	}
}

func TestP3PagesOfSomeDevices(t *testing.T) {
	p := written(1, 4, 20, 30)
	d := deviceOf([]int{4, 1, 0})
	expectProgram(t, d, 0, p, d, -1)
	expectProgram(t, d, 1, p, withBlock(d, 1, withPage(d[1], 1, p)), 5)
	expectProgram(t, d, 2, p, withBlock(d, 2, withPage(d[2], 0, p)), 8)
	one := deviceOf([]int{3})
	expectProgram(t, one, 0, p, withBlock(one, 0, withPage(one[0], 3, p)), 3)
}

func TestP3ProgrammedPagesCanBeRead(t *testing.T) {
	for _, d := range validDevices() {
		for n := range d {
			for _, p := range someWritten() {
				expectProgrammed(t, d, n, p)
			}
		}
	}
}

func TestP3EveryWrittenPageCanBeProgrammed(t *testing.T) {
	for _, size := range []int{1, 2, mostBlocks} {
		for _, p := range validPages() {
			if p.Full {
				d := deviceOf(slices.Repeat([]int{2}, size))
				expectProgrammed(t, d, 0, p)
				expectProgrammed(t, d, size-1, p)
			}
		}
	}
}

// expectProgrammed expects that a page is written as the next one of a block of a valid device, or that the device stays if the block has no room.
func expectProgrammed(t *testing.T, d []impl.Block, n int, p impl.Page) {
	t.Helper()
	many := countFull(d[n].Pages)
	if many == pagesOfBlock {
		expectProgram(t, d, n, p, d, -1)
		return
	}
	at := n*pagesOfBlock + many
	expectProgram(t, d, n, p, withBlock(d, n, withPage(d[n], many, p)), at)
	expectRead(t, d, at, impl.Page{}, false)
	after, _ := impl.Program(d, n, p)
	expectDeviceValid(t, after, true)
	for number, before := range allPages(d) {
		if number == at {
			expectRead(t, after, number, p, true)
		} else {
			expectRead(t, after, number, before, before.Full)
		}
	}
	expectFree(t, after, impl.FreePages(d)-1)
}

func TestP3DevicesCanBeFilled(t *testing.T) {
	for size := 1; size <= mostBlocks; size++ {
		d := impl.NewDevice(size)
		// Into the last block first, so that numbers do not follow the order of writes.
		for n := size - 1; n >= 0; n-- {
			for place := 0; place < pagesOfBlock; place++ {
				at := n*pagesOfBlock + place
				after, got := impl.Program(d, n, pageAt(at))
				if got != at {
					t.Fatalf("Program(%+v, %d, %+v) = %+v, %d, not %d", d, n, pageAt(at), after, got, at)
				}
				d = after
			}
			expectProgram(t, d, n, written(1, 4, 20, 30), d, -1)
		}
		for at := 0; at < size*pagesOfBlock; at++ {
			expectRead(t, d, at, pageAt(at), true)
		}
		expectFree(t, d, 0)
	}
}

// A page that cannot be written is told first: nothing comes back for full blocks, too.
func TestP3OtherPagesAreNotProgrammed(t *testing.T) {
	for _, size := range []int{1, 2, mostBlocks} {
		for _, d := range devicesOfSize(size) {
			for n := range d {
				for _, p := range pagesNotToWrite() {
					expectProgram(t, d, n, p, nil, -1)
				}
			}
		}
	}
}

func TestP3OtherBlocksAreNotProgrammed(t *testing.T) {
	for _, d := range validDevices() {
		for _, n := range numbersBeside(len(d)) {
			for _, p := range append(someWritten(), impl.Page{}) {
				expectProgram(t, d, n, p, nil, -1)
			}
		}
	}
}

func TestP3OtherDevicesAreNotProgrammed(t *testing.T) {
	for _, d := range invalidDevices() {
		for n := -1; n <= len(d); n++ {
			expectProgram(t, d, n, written(3, 2, 45, 67), nil, -1)
			expectProgram(t, d, n, impl.Page{}, nil, -1)
		}
	}
}

func TestP44BlocksOfADevice(t *testing.T) {
	d := deviceOf([]int{4, 1, 0})
	expectEraseAt(t, d, 0, withBlock(d, 0, blockWith(1, 0)), true)
	expectEraseAt(t, d, 1, withBlock(d, 1, blockWith(4, 0)), true)
	expectEraseAt(t, d, 2, withBlock(d, 2, blockWith(7, 0)), true)
	expectEraseAt(t, d, -1, nil, false)
	expectEraseAt(t, d, 3, nil, false)
	expectEraseAt(t, wornAt(d, 1), 1, wornAt(d, 1), false)
}

func TestP44OnlyOneBlockIsErased(t *testing.T) {
	for _, d := range validDevices() {
		for n, b := range d {
			if b.Wear == mostWear {
				expectEraseAt(t, d, n, d, false)
				continue
			}
			expectEraseAt(t, d, n, withBlock(d, n, blockWith(b.Wear+1, 0)), true)
			after, _ := impl.EraseAt(d, n)
			expectDeviceValid(t, after, true)
			expectFree(t, after, impl.FreePages(d)+countFull(b.Pages))
			if allWear(after) != allWear(d)+1 {
				t.Errorf("EraseAt(%+v, %d) = %+v has wear of %d", d, n, after, allWear(after))
			}
		}
	}
}

func TestP44BlocksCanBeErasedUntilTheyAreWornOut(t *testing.T) {
	for _, size := range []int{1, 2, mostBlocks} {
		for _, n := range []int{0, size - 1} {
			d := impl.NewDevice(size)
			for wear := 1; wear <= mostWear; wear++ {
				after, done := impl.EraseAt(d, n)
				if !done || after[n].Wear != wear || allWear(after) != wear {
					t.Fatalf("EraseAt(%+v, %d) = %+v, %t", d, n, after, done)
				}
				d = after
			}
			expectEraseAt(t, d, n, d, false)
		}
	}
}

func TestP44OtherBlocksAreNotErased(t *testing.T) {
	for _, d := range validDevices() {
		for _, n := range numbersBeside(len(d)) {
			expectEraseAt(t, d, n, nil, false)
		}
	}
}

func TestP44OtherDevicesAreNotErased(t *testing.T) {
	for _, d := range invalidDevices() {
		for n := -1; n <= len(d); n++ {
			expectEraseAt(t, d, n, nil, false)
		}
	}
}

func TestP45FreePagesOfSomeDevices(t *testing.T) {
	expectFree(t, deviceOf([]int{0}), 4)
	expectFree(t, deviceOf([]int{3}), 1)
	expectFree(t, deviceOf([]int{4}), 0)
	expectFree(t, deviceOf([]int{4, 1, 0}), 7)
	expectFree(t, deviceOf(make([]int, mostBlocks)), 48)
	expectFree(t, deviceOf(slices.Repeat([]int{pagesOfBlock}, mostBlocks)), 0)
}

func TestP45PagesAreFreeOrWritten(t *testing.T) {
	for _, d := range validDevices() {
		expectFree(t, d, len(d)*pagesOfBlock-countFull(allPages(d)))
		read := 0
		for at := 0; at < len(d)*pagesOfBlock; at++ {
			if _, full := impl.ReadPage(d, at); full {
				read++
			}
		}
		if impl.FreePages(d)+read != len(d)*pagesOfBlock {
			t.Errorf("%+v has %d free pages and %d written ones", d, impl.FreePages(d), read)
		}
	}
}

func TestP45OtherDevicesHaveNoNumberOfFreePages(t *testing.T) {
	for _, d := range invalidDevices() {
		expectFree(t, d, -1)
	}
}

// deviceCall is a function of the chapter with all arguments but the device, and the device that it returns.
type deviceCall struct {
	name string
	call func(d []impl.Block) []impl.Block
}

// deviceCalls are calls with the first block, the last block of all sizes, and none.
func deviceCalls() []deviceCall {
	calls := []deviceCall{
		{"DeviceValid", func(d []impl.Block) []impl.Block { impl.DeviceValid(d); return nil }},
		{"FreePages", func(d []impl.Block) []impl.Block { impl.FreePages(d); return nil }},
		{"ReadPage first", func(d []impl.Block) []impl.Block { impl.ReadPage(d, 0); return nil }},
		{"ReadPage last", func(d []impl.Block) []impl.Block { impl.ReadPage(d, len(d)*pagesOfBlock-1); return nil }},
		{"ReadPage behind", func(d []impl.Block) []impl.Block { impl.ReadPage(d, len(d)*pagesOfBlock); return nil }},
	}
	for _, place := range []string{"before", "first", "last", "behind"} {
		calls = append(calls, deviceCall{"EraseAt " + place, func(d []impl.Block) []impl.Block {
			after, _ := impl.EraseAt(d, blockAt(d, place))
			return after
		}})
		for _, p := range []impl.Page{written(1, 4, 20, 30), {}, {Value: 1}} {
			calls = append(calls, deviceCall{"Program " + place, func(d []impl.Block) []impl.Block {
				after, _ := impl.Program(d, blockAt(d, place), p)
				return after
			}})
		}
	}
	return calls
}

// blockAt returns the number of a block of a device, or one beside them.
func blockAt(d []impl.Block, place string) int {
	switch place {
	case "before":
		return -1
	case "first":
		return 0
	case "last":
		return len(d) - 1
	default:
		return len(d)
	}
}

// deviceWithRoom returns a device with room behind its blocks, and behind the pages of each.
func deviceWithRoom(d []impl.Block) []impl.Block {
	var room []impl.Block
	for _, b := range slices.Concat(d, []impl.Block{blockWith(60, 1), blockWith(70, 2)}) {
		roomy, _ := withRoom(b)
		room = append(room, roomy)
	}
	return room[:len(d)]
}

// allMemory returns what is in all memory of a device, also behind its blocks and behind their pages.
func allMemory(d []impl.Block) []impl.Block {
	var all []impl.Block
	for _, b := range d[:cap(d)] {
		all = append(all, impl.Block{Wear: b.Wear, Pages: slices.Clone(b.Pages[:cap(b.Pages)])})
	}
	return all
}

// overwriteDevice writes into all memory of a device.
func overwriteDevice(d []impl.Block) {
	all := d[:cap(d)]
	overwrite(all)
	for n := range all {
		all[n] = impl.Block{Wear: -5}
	}
}

// devicesInMemory are devices for the tests on memory: valid ones, and ones with a block that is not.
func devicesInMemory() [][]impl.Block {
	var wrong [][]impl.Block
	for _, d := range devicesWithWrongBlocks() {
		if len(d) <= 2 {
			wrong = append(wrong, d)
		}
	}
	return slices.Concat(validDevices(), devicesOfOtherSize(), wrong)
}

// expectGivenNotWritten expects that a call writes nothing into its device, nor behind it.
func expectGivenNotWritten(t *testing.T, c deviceCall, d []impl.Block) {
	t.Helper()
	given := deviceWithRoom(d)
	before := allMemory(given)
	c.call(given)
	if !sameDevice(given, d) || !sameDevice(allMemory(given), before) {
		t.Fatalf("%s: writes into %+v", c.name, d)
	}
}

func TestDevicesGivenAreNotWrittenTo(t *testing.T) {
	for _, c := range deviceCalls() {
		for _, d := range devicesInMemory() {
			expectGivenNotWritten(t, c, d)
		}
	}
}

// expectNewMemory expects that what is written into a result changes neither the argument nor another result.
func expectNewMemory(t *testing.T, c deviceCall, d []impl.Block) {
	t.Helper()
	given := deviceWithRoom(d)
	before := allMemory(given)
	other := c.call(given)
	otherBefore := cloneBlocks(other)
	overwriteDevice(c.call(given))
	if !sameDevice(given, d) || !sameDevice(allMemory(given), before) {
		t.Fatalf("%s: shares memory with %+v", c.name, d)
	}
	if !sameDevice(other, otherBefore) {
		t.Fatalf("%s: of %+v shares memory with another result", c.name, d)
	}
}

func TestDevicesReturnedShareNoMemory(t *testing.T) {
	for _, c := range deviceCalls() {
		for _, d := range devicesInMemory() {
			expectNewMemory(t, c, d)
		}
	}
}

// expectBlocksApart expects that no block shares memory with another one of its device, which is overwritten.
func expectBlocksApart(t *testing.T, name string, d []impl.Block) {
	t.Helper()
	for n := range d {
		before := cloneBlocks(d)
		overwrite(d[n : n+1])
		for other := range d {
			if other != n && !sameBlock(d[other], before[other]) {
				t.Fatalf("%s: the blocks %d and %d of the result share memory", name, n, other)
			}
		}
	}
}

func TestBlocksOfReturnedDevicesShareNoMemory(t *testing.T) {
	for _, c := range deviceCalls() {
		for _, d := range devicesInMemory() {
			expectBlocksApart(t, c.name, c.call(d))
		}
	}
	for many := 1; many <= mostBlocks; many++ {
		expectBlocksApart(t, "NewDevice", impl.NewDevice(many))
	}
}

func TestNewDevicesShareNoMemory(t *testing.T) {
	for many := 1; many <= mostBlocks; many++ {
		other := impl.NewDevice(many)
		overwriteDevice(impl.NewDevice(many))
		want := slices.Repeat([]impl.Block{blockWith(0, 0)}, many)
		if !sameDevice(other, want) || !sameDevice(impl.NewDevice(many), want) {
			t.Fatalf("NewDevice(%d) shares memory with another result", many)
		}
	}
}

// A device may be given whose blocks share their pages: what is returned must not do so.
func TestBlocksGivenMayShareMemory(t *testing.T) {
	p := written(1, 4, 20, 30)
	for size := 1; size <= mostBlocks; size++ {
		for n := 0; n < size; n++ {
			shared := slices.Repeat([]impl.Block{blockWith(5, 2)}, size)
			expectProgram(t, shared, n, p, withBlock(shared, n, withPage(shared[n], 2, p)), n*pagesOfBlock+2)
			expectEraseAt(t, shared, n, withBlock(shared, n, blockWith(6, 0)), true)
			after, _ := impl.Program(shared, n, p)
			expectBlocksApart(t, "Program", after)
			after, _ = impl.EraseAt(shared, n)
			expectBlocksApart(t, "EraseAt", after)
		}
		full := slices.Repeat([]impl.Block{blockWith(mostWear, pagesOfBlock)}, size)
		after, _ := impl.Program(full, 0, p)
		expectBlocksApart(t, "Program", after)
		after, _ = impl.EraseAt(full, 0)
		expectBlocksApart(t, "EraseAt", after)
	}
}
