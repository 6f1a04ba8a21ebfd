package tests

import (
	"cmp"
	"math"
	"slices"
	"testing"

	"loop.example/flashfiles/impl"
)

// placeOf returns the number of the place of a page, file by file.
func placeOf(p impl.Page) int {
	return p.File*placesOfFile + p.Place
}

// pageOf returns a written page of the place with a number, file by file.
func pageOf(n int, stamp int) impl.Page {
	return written(n/placesOfFile, n%placesOfFile, valueAtPlace(n), stamp)
}

// stampsOf returns the stamps of all written pages of a device, from the least one on.
func stampsOf(d []impl.Block) []int {
	var stamps []int
	for _, p := range allPages(d) {
		if p.Full {
			stamps = append(stamps, p.Stamp)
		}
	}
	slices.Sort(stamps)
	return stamps
}

// lastBySorting reckons the greatest stamp of a device, 0 if there is none.
func lastBySorting(d []impl.Block) int {
	stamps := append([]int{0}, stampsOf(d)...)
	return stamps[len(stamps)-1]
}

// sinceBySorting reckons the pages since a stamp: it sorts all written ones by stamps, and leaves out those up to it.
func sinceBySorting(d []impl.Block, stamp int) []int {
	all := allPages(d)
	pages := writtenPages(d)
	slices.SortStableFunc(pages, func(a int, b int) int { return cmp.Compare(all[a].Stamp, all[b].Stamp) })
	return slices.DeleteFunc(pages, func(at int) bool { return all[at].Stamp <= stamp })
}

// lastOfPlace returns the last one of some pages that is of a place; -1 if none is.
func lastOfPlace(all []impl.Page, pages []int, n int) int {
	for _, at := range slices.Backward(pages) {
		if placeOf(all[at]) == n {
			return at
		}
	}
	return -1
}

// rolledByPlaces reckons a table after the pages since a stamp for each place alone: it has its newest page since; or the page that it had, if that was not written since; or none.
func rolledByPlaces(d []impl.Block, x impl.Table, stamp int) impl.Table {
	all := allPages(d)
	since := sinceBySorting(d, stamp)
	numbers := numbersOf(x)
	for n, at := range numbers {
		if newest := lastOfPlace(all, since, n); newest >= 0 {
			numbers[n] = newest
		} else if slices.Contains(since, at) {
			numbers[n] = -1
		}
	}
	return tableOf(numbers)
}

// mountedByPlaces reckons the table of a valid device and of two saves.
func mountedByPlaces(d []impl.Block, saves [2]impl.Save, stamp int) impl.Table {
	n := newestSave(saves)
	if n < 0 {
		return newestPages(d)
	}
	return rolledByPlaces(d, tableOf(saves[n].Pages), stamp)
}

// withStamps returns a device whose written pages have some stamps, one after the other.
func withStamps(d []impl.Block, stampOf func(k int) int) []impl.Block {
	d = cloneBlocks(d)
	k := 0
	for _, b := range d {
		for n, p := range b.Pages {
			if p.Full {
				b.Pages[n].Stamp = stampOf(k)
				k++
			}
		}
	}
	return d
}

// upTo returns a device without the pages since a stamp.
func upTo(d []impl.Block, stamp int) []impl.Block {
	d = cloneBlocks(d)
	for _, b := range d {
		for n, p := range b.Pages {
			if p.Stamp > stamp {
				b.Pages[n] = impl.Page{}
			}
		}
	}
	return d
}

// differentStamps are orders in which no two pages have the same stamp: ascending along the device, descending, and neither.
func differentStamps() []func(k int) int {
	return []func(k int) int{
		func(k int) int { return 1 + k },
		func(k int) int { return 10 + 3*k },
		func(k int) int { return mostPages - k },
		func(k int) int { return mostStamp - 2*k },
		func(k int) int { return 400 + k*31%mostPages },
		func(k int) int { return 1 + k*29%mostPages },
	}
}

// sameStamps are orders in which all pages have the same stamp, or some of one block, or some of several blocks.
func sameStamps() []func(k int) int {
	return []func(k int) int{
		func(k int) int { return 1 },
		func(k int) int { return 7 },
		func(k int) int { return mostStamp },
		func(k int) int { return 5 + k/2 },
		func(k int) int { return 90 - k/3 },
		func(k int) int { return 5 + k%4 },
		func(k int) int { return 9 - k%5 },
		func(k int) int { return 1 + k%2*(mostStamp-1) },
	}
}

// countsToRoll are numbers of written pages in the blocks: those of chapter 5, the first page alone, and one in each block.
func countsToRoll() [][]int {
	var counts [][]int
	for _, size := range []int{1, 2, 5, mostBlocks} {
		counts = append(counts, countsOf(size)...)
		counts = append(counts, sameButOne(size, 0, 0, 1), slices.Repeat([]int{1}, size))
	}
	return counts
}

// devicesOfStamps are devices whose pages are of different places, of three places, or all of one, with stamps in some orders.
func devicesOfStamps(orders []func(k int) int) [][]impl.Block {
	var devices [][]impl.Block
	for _, counts := range countsToRoll() {
		for _, by := range []int{1, 29, 16, 0} {
			for _, stampOf := range orders {
				devices = append(devices, withStamps(placedDevice(counts, by), stampOf))
			}
		}
	}
	return devices
}

func devicesToRoll() [][]impl.Block {
	return append(devicesOfStamps(differentStamps()), devicesOfStamps(sameStamps())...)
}

// someDevicesToRoll are a few of them, of every size, for tests with many other arguments.
func someDevicesToRoll() [][]impl.Block {
	devices := [][]impl.Block{impl.NewDevice(1), impl.NewDevice(mostBlocks), twoFiles(), deviceForNumbers(shiftedPages(29))}
	for n, d := range devicesToRoll() {
		if n%53 == 0 {
			devices = append(devices, d)
		}
	}
	return devices
}

// numbersSince are the least and the greatest numbers, and those around the least, a middle and the greatest stamp of a device.
func numbersSince(d []impl.Block) []int {
	numbers := []int{math.MinInt, -1, 0, mostStamp, math.MaxInt}
	if stamps := stampsOf(d); len(stamps) > 0 {
		for _, stamp := range []int{stamps[0], stamps[len(stamps)/2], stamps[len(stamps)-1]} {
			numbers = append(numbers, stamp-1, stamp, stamp+1)
		}
	}
	slices.Sort(numbers)
	return slices.Compact(numbers)
}

// tablesToRoll are tables for a device: without pages, its own one, one from before some writes, full ones of pages that are free, of other places or of no page of the device, and half of one.
func tablesToRoll(d []impl.Block) []impl.Table {
	stamps := append([]int{0}, stampsOf(d)...)
	return []impl.Table{
		tableOf(noPages()),
		newestPages(d),
		newestPages(upTo(d, stamps[len(stamps)/2])),
		tableOf(ascendingPages()),
		tableOf(shiftedPages(29)),
		tableOf(everySecond(shiftedPages(1), 0)),
	}
}

func expectSince(t *testing.T, d []impl.Block, stamp int, pages []int) {
	t.Helper()
	before := cloneBlocks(d)
	if got := impl.PagesSince(d, stamp); !slices.Equal(got, pages) {
		t.Errorf("PagesSince(%+v, %d) = %v, not %v", d, stamp, got, pages)
	}
	if !sameDevice(d, before) {
		t.Errorf("PagesSince(%+v, %d) writes into it: %+v", before, stamp, d)
	}
}

// expectByStamps expects of a valid device what chapter 18 says, and what promise 82 does.
func expectByStamps(t *testing.T, d []impl.Block, stamp int) {
	t.Helper()
	expectSince(t, d, stamp, sinceBySorting(d, stamp))
	pages := impl.PagesSince(d, stamp)
	before := impl.Page{}
	for n, at := range pages {
		p, full := impl.ReadPage(d, at)
		if !full || p.Stamp <= stamp || p.Stamp < before.Stamp {
			t.Errorf("PagesSince(%+v, %d) = %v has %+v", d, stamp, pages, p)
		}
		if p.Stamp == before.Stamp && at <= pages[n-1] {
			t.Errorf("PagesSince(%+v, %d) = %v has %d behind %d", d, stamp, pages, at, pages[n-1])
		}
		before = p
	}
	if stamp < 1 && len(pages) != len(d)*pagesOfBlock-impl.FreePages(d) {
		t.Errorf("PagesSince(%+v, %d) = %v, which are not all written pages", d, stamp, pages)
	}
}

func expectRoll(t *testing.T, d []impl.Block, x impl.Table, stamp int, after impl.Table) {
	t.Helper()
	deviceBefore, tableBefore := cloneBlocks(d), cloneTable(x)
	if got := impl.RollForward(d, x, stamp); !sameTable(got, after) {
		t.Errorf("RollForward(%+v, %v, %d) = %v, not %v", d, x, stamp, got, after)
	}
	if !sameDevice(d, deviceBefore) || !sameTable(x, tableBefore) {
		t.Errorf("RollForward(%+v, %v, %d) writes into them: %+v, %v", deviceBefore, tableBefore, stamp, d, x)
	}
}

// expectNotRolled expects what there is for arguments that are not valid.
func expectNotRolled(t *testing.T, d []impl.Block, x impl.Table, stamp int) {
	t.Helper()
	expectRoll(t, d, x, stamp, impl.Table{})
}

// expectRolled expects of a valid device and a valid table what chapter 18 says, and what promise 12 does.
func expectRolled(t *testing.T, d []impl.Block, x impl.Table, stamp int) {
	t.Helper()
	expectRoll(t, d, x, stamp, rolledByPlaces(d, x, stamp))
	after := impl.RollForward(d, x, stamp)
	expectTableValid(t, after, true)
	expectNewestSince(t, d, after, stamp)
	// With every page where it is, they change nothing any more.
	expectRoll(t, d, after, stamp, after)
}

// expectNewestSince expects that a table names, for every page since a stamp, that one or a written page of the same place that is not older.
func expectNewestSince(t *testing.T, d []impl.Block, after impl.Table, stamp int) {
	t.Helper()
	for _, p := range allPages(d) {
		if !p.Full || p.Stamp <= stamp {
			continue
		}
		named, full := impl.ReadPage(d, after.At[p.File][p.Place])
		if !full || placeOf(named) != placeOf(p) || named.Stamp < p.Stamp {
			t.Errorf("%v names %+v, not %+v", after, named, p)
		}
	}
}

func expectLast(t *testing.T, d []impl.Block, stamp int) {
	t.Helper()
	before := cloneBlocks(d)
	if got := impl.LastStamp(d); got != stamp {
		t.Errorf("LastStamp(%+v) = %d, not %d", d, got, stamp)
	}
	if !sameDevice(d, before) {
		t.Errorf("LastStamp(%+v) writes into it: %+v", before, d)
	}
}

// expectLastIsGreatest expects of a valid device what chapter 18 says, and what promise 83 does.
func expectLastIsGreatest(t *testing.T, d []impl.Block) {
	t.Helper()
	expectLast(t, d, lastBySorting(d))
	last := impl.LastStamp(d)
	if later := impl.PagesSince(d, last); len(later) != 0 {
		t.Errorf("LastStamp(%+v) = %d, but the pages %v were written since", d, last, later)
	}
	pages := impl.PagesSince(d, last-1)
	if (len(pages) > 0) != (last > 0) {
		t.Errorf("LastStamp(%+v) = %d, but at it the pages %v were written", d, last, pages)
	}
	if (last > 0) != (impl.FreePages(d) < len(d)*pagesOfBlock) {
		t.Errorf("LastStamp(%+v) = %d with %d free pages", d, last, impl.FreePages(d))
	}
}

func expectMount(t *testing.T, d []impl.Block, saves [2]impl.Save, stamp int, x impl.Table, done bool) {
	t.Helper()
	before := cloneBlocks(d)
	first, second := cloneSave(saves[0]), cloneSave(saves[1])
	if got, gotDone := impl.MountTable(d, saves[0], saves[1], stamp); gotDone != done || !sameTable(got, x) {
		t.Errorf("MountTable(%+v, %+v, %+v, %d) = %v, %t, not %v, %t", d, saves[0], saves[1], stamp, got, gotDone, x, done)
	}
	if !sameDevice(d, before) || !sameSave(saves[0], first) || !sameSave(saves[1], second) {
		t.Errorf("MountTable(%+v, %+v, %+v, %d) writes into them: %+v, %+v", before, first, second, stamp, d, saves)
	}
}

// expectNotMounted expects what there is for devices that are not valid.
func expectNotMounted(t *testing.T, d []impl.Block, saves [2]impl.Save, stamp int) {
	t.Helper()
	expectMount(t, d, saves, stamp, impl.Table{}, false)
}

// expectMounted expects of a valid device what chapter 18 says, and what promise 84 does.
func expectMounted(t *testing.T, d []impl.Block, saves [2]impl.Save, stamp int) {
	t.Helper()
	expectMount(t, d, saves, stamp, mountedByPlaces(d, saves, stamp), true)
	x, _ := impl.MountTable(d, saves[0], saves[1], stamp)
	expectTableValid(t, x, true)
	saved, _, done := impl.NewerSave(saves[0], saves[1])
	if !done {
		expectChanges(t, x, impl.TableOf(d), 0)
		return
	}
	expectRoll(t, d, saved, stamp, x)
}

// P82: pages are by stamps.

func TestP82PagesOfSomeDevices(t *testing.T) {
	pages := []impl.Page{written(2, 1, 5, 4), written(0, 0, 6, 7), written(2, 1, 0, 9), written(7, 5, 8, 1000000), written(2, 1, 9999, 6)}
	d := splitDevice(pages, []int{3, 2, 0})
	for _, stamp := range []int{math.MinInt, -1, 0, 3} {
		expectSince(t, d, stamp, []int{0, 5, 1, 2, 4})
	}
	expectSince(t, d, 4, []int{5, 1, 2, 4})
	expectSince(t, d, 5, []int{5, 1, 2, 4})
	expectSince(t, d, 6, []int{1, 2, 4})
	expectSince(t, d, 7, []int{2, 4})
	expectSince(t, d, 9, []int{4})
	expectSince(t, d, 999999, []int{4})
	expectSince(t, d, 1000000, nil)
	expectSince(t, d, math.MaxInt, nil)
	expectSince(t, impl.NewDevice(1), -1, nil)
}

func TestP82OfTheSameStampTheLesserNumberComesFirst(t *testing.T) {
	expectSince(t, stampedDevice([][]int{{5, 5, 5, 5}}), 4, []int{0, 1, 2, 3})
	expectSince(t, stampedDevice([][]int{{5, 5, 5, 5}}), 5, nil)
	expectSince(t, stampedDevice([][]int{{6, 5, 6, 5}}), 0, []int{1, 3, 0, 2})
	expectSince(t, stampedDevice([][]int{{6, 5}, {5, 6, 4}, {}, {6}}), 0, []int{6, 1, 4, 0, 5, 12})
	expectSince(t, stampedDevice([][]int{{9, 8, 9}, {8, 8, 7}}), 7, []int{1, 4, 5, 0, 2})
	for size := 1; size <= mostBlocks; size++ {
		for _, stamp := range []int{1, 67, mostStamp} {
			d := stampedDevice(slices.Repeat([][]int{slices.Repeat([]int{stamp}, pagesOfBlock)}, size))
			expectSince(t, d, stamp-1, numbersFromTo(0, size*pagesOfBlock-1))
			expectSince(t, d, stamp, nil)
		}
	}
}

func TestP82PagesOfAllDevices(t *testing.T) {
	for _, d := range devicesToRoll() {
		for _, stamp := range numbersSince(d) {
			expectByStamps(t, d, stamp)
		}
	}
}

func TestP82ValidDevices(t *testing.T) {
	for _, d := range append(validDevices(), smallDevices()...) {
		for _, stamp := range numbersSince(d) {
			expectByStamps(t, d, stamp)
		}
	}
}

// All stamps of four pages, in one block and in several, since each of them, and all of eight pages with two stamps.
func TestP82AllStampsOfAFewPages(t *testing.T) {
	for _, stamps := range listsOf(numbersFromTo(1, 4), 4) {
		for stamp := 0; stamp <= 4; stamp++ {
			expectByStamps(t, stampedDevice([][]int{stamps}), stamp)
			expectByStamps(t, stampedDevice([][]int{stamps[:2], {}, stamps[2:]}), stamp)
			expectByStamps(t, stampedDevice([][]int{stamps[:1], stamps[1:]}), stamp)
		}
	}
	for _, stamps := range listsOf([]int{3, 8}, 8) {
		for _, stamp := range []int{2, 3, 7, 8} {
			expectByStamps(t, stampedDevice([][]int{stamps[:4], stamps[4:]}), stamp)
		}
	}
}

// Every page stands at its place by its stamp, wherever it is on the device.
func TestP82EveryPageComesToItsPlace(t *testing.T) {
	for at := 0; at < mostPages; at++ {
		for place := 0; place < mostPages; place++ {
			// All others have the even stamps, in order.
			d := withStamps(placedDevice(slices.Repeat([]int{pagesOfBlock}, mostBlocks), 7), func(k int) int {
				if k == at {
					return 2*place + 1
				}
				return 2 * (k + 1)
			})
			others := slices.Delete(ascendingPages(), at, at+1)
			behind := place
			if place > at {
				behind--
			}
			expectSince(t, d, -1, slices.Insert(others, behind, at))
		}
	}
}

func TestP82OnePageAlone(t *testing.T) {
	for size := 1; size <= mostBlocks; size++ {
		for n := 0; n < size; n++ {
			for _, stamp := range []int{1, 2, 67, mostStamp - 1, mostStamp} {
				d := withBlock(deviceOf(make([]int, size)), n, stampedBlock([]int{stamp}))
				for _, since := range []int{math.MinInt, -mostStamp, -1, 0, stamp - 1} {
					expectSince(t, d, since, []int{n * pagesOfBlock})
				}
				for _, since := range []int{stamp, stamp + 1, mostStamp, mostStamp + 1, math.MaxInt} {
					expectSince(t, d, since, nil)
				}
			}
		}
	}
}

// Since every number there are the pages whose stamps are greater: with a stamp of 10, 13, 16 and so on they become fewer at these only.
func TestP82PagesSinceEveryNumber(t *testing.T) {
	d := withStamps(fullDevice(mostBlocks), func(k int) int { return 10 + 3*k })
	expectSince(t, d, 9, ascendingPages())
	for at := 0; at < mostPages; at++ {
		for stamp := 10 + 3*at; stamp < 13+3*at; stamp++ {
			expectSince(t, d, stamp, ascendingPages()[at+1:])
		}
	}
}

func TestP82SinceMinusOneTheseAreAllWrittenPages(t *testing.T) {
	for _, d := range devicesToRoll() {
		pages := impl.PagesSince(d, -1)
		slices.Sort(pages)
		if !slices.Equal(pages, writtenPages(d)) {
			t.Errorf("PagesSince(%+v, -1) has %v, but written are %v", d, pages, writtenPages(d))
		}
		expectSince(t, d, 0, impl.PagesSince(d, -1))
	}
}

// Files, places, values and wear do not matter: pages with the same stamps come in the same order.
func TestP82OnlyStampsMatter(t *testing.T) {
	for _, stamps := range listsOf([]int{4, 5, 6}, 4) {
		d := stampedDevice([][]int{stamps[:3], stamps[3:]})
		for _, n := range somePlaces() {
			other := cloneBlocks(d)
			for k := range other {
				other[k].Wear = n % 40
				for m, p := range other[k].Pages {
					if p.Full {
						other[k].Pages[m] = pageOf((n+7*m)%allPlaces, p.Stamp)
					}
				}
			}
			for stamp := 3; stamp <= 6; stamp++ {
				expectSince(t, other, stamp, sinceBySorting(d, stamp))
			}
		}
	}
}

func TestP82OtherDevicesHaveNoPagesSince(t *testing.T) {
	for _, d := range invalidDevices() {
		for _, stamp := range []int{math.MinInt, -1, 0, 5, 970, mostStamp, math.MaxInt} {
			expectSince(t, d, stamp, nil)
		}
	}
}

// But for the wrong block there were pages since, and a last stamp.
func TestP82WithAWrongBlockADeviceHasNoPagesSince(t *testing.T) {
	for _, wrong := range invalidBlocks() {
		for _, size := range []int{1, 2, mostBlocks} {
			for _, n := range blocksOfSize(size) {
				d := withBlock(placedDevice(slices.Repeat([]int{2}, size), 1), n, wrong)
				expectSince(t, d, -1, nil)
				expectSince(t, d, 400, nil)
				expectLast(t, d, -1)
			}
		}
	}
}

// A stamp of 0 is out of bounds, too: that of the first write is 1.
func TestP82WithAWrongStampADeviceHasNoPagesSince(t *testing.T) {
	for _, stamp := range stampsOutOfBounds() {
		for _, size := range []int{1, 2, mostBlocks} {
			for _, n := range blocksOfSize(size) {
				for many := 1; many <= pagesOfBlock; many++ {
					d := placedDevice(sameButOne(size, 3, n, many), 7)
					d[n].Pages[many-1].Stamp = stamp
					for _, since := range []int{math.MinInt, -1, 0, stamp, 401, mostStamp} {
						expectSince(t, d, since, nil)
					}
					expectLast(t, d, -1)
				}
			}
		}
	}
}

// P12: rolled tables have the newest pages.

func TestP12SomeTables(t *testing.T) {
	pages := []impl.Page{written(2, 1, 5, 4), written(0, 0, 6, 7), written(2, 1, 0, 9), written(7, 5, 8, 1000000), written(2, 1, 9999, 6)}
	d := splitDevice(pages, []int{3, 2, 0})
	own := withTwoNumbers(withNumber(noPages(), 13, 2), 0, 1, allPlaces-1, 4)
	expectRoll(t, d, tableOf(noPages()), -1, tableOf(own))
	expectRoll(t, d, tableOf(noPages()), 0, tableOf(own))
	expectRoll(t, d, tableOf(noPages()), 4, tableOf(own))
	expectRoll(t, d, tableOf(noPages()), 6, tableOf(own))
	expectRoll(t, d, tableOf(noPages()), 7, tableOf(withTwoNumbers(noPages(), 13, 2, allPlaces-1, 4)))
	expectRoll(t, d, tableOf(noPages()), 9, tableOf(withNumber(noPages(), allPlaces-1, 4)))
	expectRoll(t, d, tableOf(noPages()), 1000000, tableOf(noPages()))
	expectRoll(t, d, tableOf(own), -1, tableOf(own))
	// The table was saved when the page 5 was the newest one of its place.
	old := tableOf(withNumber(noPages(), 13, 5))
	expectRoll(t, d, old, 6, tableOf(own))
	expectRoll(t, d, old, 9, tableOf(withTwoNumbers(noPages(), 13, 5, allPlaces-1, 4)))
	expectRoll(t, d, old, 1000000, old)
	// The page 2, which was written at 9, is at a place of another file: since 8 it comes to its own one, and since 9 it stays.
	wrong := tableOf(withNumber(noPages(), 20, 2))
	expectRoll(t, d, wrong, 8, tableOf(withTwoNumbers(noPages(), 13, 2, allPlaces-1, 4)))
	expectRoll(t, d, wrong, 9, tableOf(withTwoNumbers(noPages(), 20, 2, allPlaces-1, 4)))
}

func TestP12IfNothingWasWrittenSinceTheTableStays(t *testing.T) {
	for _, d := range someDevicesToRoll() {
		last := lastBySorting(d)
		for _, x := range append(validTables(), newestPages(d)) {
			for _, stamp := range []int{last, last + 1, mostStamp, mostStamp + 1, math.MaxInt} {
				expectRoll(t, d, x, stamp, x)
			}
		}
	}
	for size := 1; size <= mostBlocks; size++ {
		for _, x := range validTables() {
			expectRoll(t, impl.NewDevice(size), x, -1, x)
			expectRoll(t, impl.NewDevice(size), x, math.MinInt, x)
		}
	}
}

// oneSince returns a full device of which only one page was written since 1, for a place.
func oneSince(at int, n int) []impl.Block {
	d := withStamps(fullDevice(mostBlocks), func(k int) int { return 1 })
	d[at/pagesOfBlock].Pages[at%pagesOfBlock] = pageOf(n, 2)
	return d
}

// Of a table without pages, of one that names the page elsewhere, and of one that names it there, every page may be that of every place then.
func TestP12OnePageWasWrittenSince(t *testing.T) {
	for at := 0; at < mostPages; at++ {
		for n := 0; n < allPlaces; n++ {
			d := oneSince(at, n)
			expectRoll(t, d, tableOf(noPages()), 1, tableOf(withNumber(noPages(), n, at)))
			expectRoll(t, d, tableOf(withNumber(noPages(), n, at)), 1, tableOf(withNumber(noPages(), n, at)))
			expectRoll(t, d, tableOf(withNumber(noPages(), n, (at+1)%mostPages)), 1, tableOf(withNumber(noPages(), n, at)))
			expectRoll(t, d, tableOf(withNumber(noPages(), (n+1)%allPlaces, at)), 1, tableOf(withNumber(noPages(), n, at)))
			expectRoll(t, d, tableOf(ascendingPages()), 1, tableOf(movedTo(ascendingPages(), n, at)))
			expectRoll(t, d, tableOf(shiftedPages(29)), 1, tableOf(movedTo(shiftedPages(29), n, at)))
			expectRoll(t, d, tableOf(shiftedPages(29)), 2, tableOf(shiftedPages(29)))
		}
	}
}

// In the table the page is at any place, also at its own one.
func TestP12EveryOtherPlaceThatHasThePageHasNone(t *testing.T) {
	for _, n := range somePlaces() {
		for _, at := range []int{0, 23, mostPages - 1} {
			d := oneSince(at, n)
			for other := 0; other < allPlaces; other++ {
				expectRoll(t, d, tableOf(withNumber(noPages(), other, at)), 1, tableOf(withNumber(noPages(), n, at)))
				expectRolled(t, d, tableOf(movedTo(ascendingPages(), other, at)), 1)
			}
		}
	}
}

// deviceOfPlace returns a device whose first pages are so many of one place.
func deviceOfPlace(n int, many int) []impl.Block {
	counts := make([]int, mostBlocks)
	for k := range counts {
		counts[k] = min(max(many-k*pagesOfBlock, 0), pagesOfBlock)
	}
	return splitDevice(slices.Repeat([]impl.Page{pageOf(n, 5)}, many), counts)
}

// withNoneBelow returns numbers with none where there is a page below one.
func withNoneBelow(numbers []int, least int) []int {
	numbers = slices.Clone(numbers)
	for n, at := range numbers {
		if at < least {
			numbers[n] = -1
		}
	}
	return numbers
}

// A place was written since so often, with stamps that ascend, descend, or are all the same: the table has the newest page, the last one of several, and none of the others, at no other place either.
func TestP12ThePlaceWasWrittenOftenSince(t *testing.T) {
	for _, n := range somePlaces() {
		for many := 1; many <= mostPages; many++ {
			d := deviceOfPlace(n, many)
			ascending := withStamps(d, func(k int) int { return 5 + k })
			descending := withStamps(d, func(k int) int { return 90 - k })
			for _, numbers := range [][]int{noPages(), ascendingPages(), shiftedPages(29), movedTo(noPages(), n, 0)} {
				others := withNoneBelow(numbers, many)
				expectRoll(t, d, tableOf(numbers), 4, tableOf(withNumber(others, n, many-1)))
				expectRoll(t, ascending, tableOf(numbers), 4, tableOf(withNumber(others, n, many-1)))
				expectRoll(t, descending, tableOf(numbers), 4, tableOf(withNumber(others, n, 0)))
			}
		}
	}
}

func TestP12TheGreatestStampIsNamedWhereverItStands(t *testing.T) {
	for _, size := range []int{1, 2, mostBlocks} {
		for at := 0; at < size*pagesOfBlock; at++ {
			for _, stamp := range []int{68, mostStamp} {
				pages := slices.Repeat([]impl.Page{pageOf(20, 67)}, size*pagesOfBlock)
				pages[at].Stamp = stamp
				d := splitDevice(pages, slices.Repeat([]int{pagesOfBlock}, size))
				for _, since := range []int{-1, 66, 67} {
					expectRoll(t, d, tableOf(noPages()), since, tableOf(withNumber(noPages(), 20, at)))
				}
				expectRoll(t, d, tableOf(noPages()), stamp, tableOf(noPages()))
				expectRolled(t, d, tableOf(ascendingPages()), 66)
				expectRolled(t, d, tableOf(ascendingPages()), 67)
			}
		}
	}
}

// Two pages were written since, and the table has each at the place of the other one.
func TestP12TwoPagesAreChangedAbout(t *testing.T) {
	for first := 0; first < allPlaces; first++ {
		for second := first + 1; second < allPlaces; second++ {
			for _, stamps := range [][]int{{5, 6}, {6, 5}, {5, 5}} {
				d := splitDevice([]impl.Page{pageOf(first, stamps[0]), pageOf(second, stamps[1])}, []int{1, 1})
				right := withTwoNumbers(noPages(), first, 0, second, pagesOfBlock)
				wrong := withTwoNumbers(noPages(), first, pagesOfBlock, second, 0)
				expectRoll(t, d, tableOf(wrong), 4, tableOf(right))
				expectRoll(t, d, tableOf(right), 4, tableOf(right))
				expectRolled(t, d, tableOf(wrong), 5)
			}
		}
	}
}

// All pages of a full device were written since, and the table has every one at another place, or some at none.
func TestP12AllPagesChangeTheirPlaces(t *testing.T) {
	for _, numbers := range [][]int{ascendingPages(), shiftedPages(1), shiftedPages(29)} {
		d := deviceForNumbers(numbers)
		for by := 0; by < mostPages; by++ {
			for _, x := range []impl.Table{tableOf(shiftedPages(by)), tableOf(everySecond(shiftedPages(by), by%2))} {
				expectRoll(t, d, x, 0, tableOf(numbers))
				expectRolled(t, d, x, by)
			}
		}
	}
}

// The page that the table names for a place is written since for another place, and that one's page for a third one, and so on: no place is written twice.
func TestP12PagesThatGoRound(t *testing.T) {
	for _, places := range [][]int{{0, 1, 2}, {0, 20, 47}, {47, 6, 5, 13}, {5, 6, 11, 12, 17}} {
		for _, step := range []int{1, 2} {
			var pages []impl.Page
			for k, n := range places {
				pages = append(pages, pageOf(n, 10+k))
			}
			d := splitDevice(pages, []int{2, len(pages) - 2})
			before, after := noPages(), noPages()
			for k, n := range places {
				after[n] = writtenPages(d)[k]
				before[n] = writtenPages(d)[(k+step)%len(places)]
			}
			expectRoll(t, d, tableOf(before), 9, tableOf(after))
			for stamp := 9; stamp < 16; stamp++ {
				expectRolled(t, d, tableOf(before), stamp)
			}
		}
	}
}

// Pages that were written up to the stamp stay out, if the table does not name them, also where no other page is.
func TestP12PagesFromBeforeTheSaveStayOut(t *testing.T) {
	d := splitDevice([]impl.Page{pageOf(0, 1), pageOf(5, 2), pageOf(6, 3), pageOf(47, 4), pageOf(5, 5)}, []int{4, 1})
	for stamp := 0; stamp <= 5; stamp++ {
		numbers := noPages()
		for k, n := range []int{0, 5, 6, 47, 5} {
			if k+1 > stamp {
				numbers[n] = k
			}
		}
		expectRoll(t, d, tableOf(noPages()), stamp, tableOf(numbers))
	}
	for _, d := range someDevicesToRoll() {
		for _, stamp := range numbersSince(d) {
			after := numbersOf(impl.RollForward(d, tableOf(noPages()), stamp))
			for _, at := range writtenPages(d) {
				if allPages(d)[at].Stamp <= stamp && slices.Contains(after, at) {
					t.Errorf("RollForward(%+v, no pages, %d) = %v has the page %d", d, stamp, after, at)
				}
			}
		}
	}
}

// A file that was cut before the save stays cut, though its pages are still written; and one that was cut since is as it was saved.
func TestP12CutFiles(t *testing.T) {
	for _, d := range someDevicesToRoll() {
		own, last := newestPages(d), lastBySorting(d)
		for file := 0; file < filesOfTable; file++ {
			cut := impl.CutFile(own, file, 1)
			expectRoll(t, d, cut, last, cut)
			expectRoll(t, d, own, last, own)
		}
		for file := 0; file < filesOfTable; file++ {
			for _, stamp := range numbersSince(d) {
				expectRolled(t, d, impl.CutFile(own, file, 0), stamp)
			}
		}
	}
}

// Pages that are free, are of another place, or are on no block of the device stay where the table has them, as long as they are not written since.
func TestP12OtherPagesStayWhereTheyWere(t *testing.T) {
	d := splitDevice([]impl.Page{pageOf(3, 8), pageOf(4, 9)}, []int{2})
	for _, at := range []int{2, 3, 4, 23, mostPages - 1} {
		for n := 0; n < allPlaces; n++ {
			numbers := withTwoNumbers(noPages(), 3, 0, 4, 1)
			if n != 3 && n != 4 {
				numbers[n] = at
			}
			expectRoll(t, d, tableOf(withNumber(noPages(), n, at)), 0, tableOf(numbers))
			expectRoll(t, d, tableOf(withNumber(noPages(), n, at)), 9, tableOf(withNumber(noPages(), n, at)))
		}
	}
	// Of a full table all other places keep what they had.
	for by := 0; by < mostPages; by++ {
		expectRoll(t, d, tableOf(shiftedPages(by)), 7, tableOf(movedTo(movedTo(shiftedPages(by), 3, 0), 4, 1)))
		expectRoll(t, d, tableOf(shiftedPages(by)), 8, tableOf(movedTo(shiftedPages(by), 4, 1)))
	}
}

// A table that was saved at any stamp is the device's own one after the pages since.
func TestP12SavedTablesFindLaterWrites(t *testing.T) {
	for _, d := range devicesOfStamps(differentStamps()) {
		own := newestPages(d)
		for _, stamp := range numbersSince(d) {
			expectRoll(t, d, newestPages(upTo(d, stamp)), stamp, own)
		}
	}
}

// From no page on it is TableOf, where no two pages of a place have the same stamp; where some have, it is the last one of them instead of the first one.
func TestP12FromNoPagesOnItIsTableOf(t *testing.T) {
	for _, d := range append(devicesOfStamps(differentStamps()), validDevices()...) {
		expectRoll(t, d, tableOf(noPages()), -1, newestPages(d))
		expectRoll(t, d, newestPages(d), -1, newestPages(d))
		expectChanges(t, impl.RollForward(d, tableOf(noPages()), -1), impl.TableOf(d), 0)
	}
	d := stampedDevice([][]int{{5, 9}, {9, 9, 8}, {9, 1}})
	expectTableOf(t, d, tableOf(withNumber(noPages(), 20, 1)))
	expectRoll(t, d, tableOf(noPages()), -1, tableOf(withNumber(noPages(), 20, 8)))
	for _, d := range devicesOfStamps(sameStamps()) {
		x := impl.RollForward(d, tableOf(noPages()), -1)
		for n, at := range numbersOf(impl.TableOf(d)) {
			if at == -1 {
				expectGet(t, x, n/placesOfFile, n%placesOfFile, -1)
				continue
			}
			last := lastWithStamp(d, n, allPages(d)[at].Stamp)
			expectGet(t, x, n/placesOfFile, n%placesOfFile, last)
		}
	}
}

// lastWithStamp returns the greatest number of a page of a place with a stamp.
func lastWithStamp(d []impl.Block, n int, stamp int) int {
	last := -1
	for at, p := range allPages(d) {
		if p.Full && placeOf(p) == n && p.Stamp == stamp {
			last = at
		}
	}
	return last
}

func TestP12RolledTablesOfAllDevices(t *testing.T) {
	for _, d := range devicesToRoll() {
		tables := tablesToRoll(d)
		for n, stamp := range numbersSince(d) {
			expectRolled(t, d, tables[n%len(tables)], stamp)
			expectRolled(t, d, tables[(n+3)%len(tables)], stamp)
		}
	}
}

func TestP12EveryTableSinceEveryStamp(t *testing.T) {
	for _, d := range someDevicesToRoll() {
		for _, x := range append(tablesToRoll(d), validTables()...) {
			for _, stamp := range numbersSince(d) {
				expectRolled(t, d, x, stamp)
			}
		}
	}
}

// Three pages of two places with all stamps of three, beside all tables of three places that have these pages or a free one.
func TestP12AllSmallDevices(t *testing.T) {
	places := []int{5, 6, 20}
	var tables []impl.Table
	for _, list := range listsOf([]int{-1, 0, 1, 4, 9}, len(places)) {
		numbers := noPages()
		for k, n := range places {
			numbers[n] = list[k]
		}
		if !hasTwice(numbers) {
			tables = append(tables, tableOf(numbers))
		}
	}
	for _, own := range listsOf(places[:2], 3) {
		for _, stamps := range listsOf([]int{1, 2, 3}, 3) {
			var pages []impl.Page
			for k, n := range own {
				pages = append(pages, pageOf(n, stamps[k]))
			}
			d := splitDevice(pages, []int{2, 1, 0})
			for _, x := range tables {
				for stamp := 0; stamp < 3; stamp++ {
					expectRoll(t, d, x, stamp, rolledByPlaces(d, x, stamp))
				}
			}
		}
	}
}

// What was rolled since a stamp stays when it is rolled again, since that one or a later one.
func TestP12TablesCanBeRolledAgain(t *testing.T) {
	for _, d := range someDevicesToRoll() {
		for _, x := range tablesToRoll(d) {
			for _, first := range numbersSince(d) {
				after := impl.RollForward(d, x, first)
				for _, second := range numbersSince(d) {
					if second >= first {
						expectRoll(t, d, after, second, after)
					} else {
						expectRolled(t, d, after, second)
					}
				}
			}
		}
	}
}

func TestP12OtherTablesAreNotRolled(t *testing.T) {
	devices := [][]impl.Block{impl.NewDevice(1), twoFiles(), deviceForNumbers(ascendingPages()), deviceForNumbers(shiftedPages(1))}
	for _, d := range devices {
		for _, x := range invalidTables() {
			for _, stamp := range []int{-1, 3, mostStamp} {
				expectNotRolled(t, d, x, stamp)
			}
		}
		for _, x := range someInvalidTables() {
			for _, stamp := range numbersSince(d) {
				expectNotRolled(t, d, x, stamp)
			}
		}
	}
	// All pages of the table were written since, each for its own place, but one of them stands there once more.
	expectNotRolled(t, twoFiles(), tableOf(withTwoNumbers(noPages(), 0, 0, 30, 0)), -1)
}

func TestP12WithOtherDevicesNoTableIsRolled(t *testing.T) {
	for _, d := range invalidDevices() {
		for _, x := range someTables() {
			for _, stamp := range []int{math.MinInt, -1, 500, math.MaxInt} {
				expectNotRolled(t, d, x, stamp)
			}
		}
		expectNotRolled(t, d, impl.Table{}, -1)
		expectNotRolled(t, d, tableWithTwice(9, 2, 3), mostStamp)
	}
	for _, wrong := range invalidBlocks() {
		for _, size := range []int{1, 2, mostBlocks} {
			for _, n := range blocksOfSize(size) {
				d := withBlock(placedDevice(slices.Repeat([]int{2}, size), 1), n, wrong)
				expectNotRolled(t, d, tableOf(noPages()), -1)
				expectNotRolled(t, d, tableOf(noPages()), mostStamp)
			}
		}
	}
}

// P83: last stamps are greatest.

func TestP83SomeDevices(t *testing.T) {
	expectLast(t, impl.NewDevice(1), 0)
	expectLast(t, impl.NewDevice(mostBlocks), 0)
	expectLast(t, stampedDevice([][]int{{1}}), 1)
	expectLast(t, stampedDevice([][]int{{}, {1}}), 1)
	expectLast(t, stampedDevice([][]int{{3, 9, 4}, {}, {8, 2}}), 9)
	expectLast(t, stampedDevice([][]int{{3, 7, 4}, {}, {8, 9}}), 9)
	expectLast(t, stampedDevice([][]int{{9, 9}, {9}}), 9)
	expectLast(t, stampedDevice([][]int{{1, mostStamp}, {mostStamp - 1}}), mostStamp)
	expectLast(t, twoFiles(), 6)
	expectLast(t, nil, -1)
	expectLast(t, []impl.Block{}, -1)
	expectLast(t, stampedDevice([][]int{{0}}), -1)
	expectLast(t, stampedDevice([][]int{{5}, {0}}), -1)
	expectLast(t, stampedDevice([][]int{{mostStamp + 1}, {5}}), -1)
}

func TestP83DevicesWithoutAPage(t *testing.T) {
	for size := 1; size <= mostBlocks; size++ {
		expectLast(t, impl.NewDevice(size), 0)
		expectLast(t, deviceOf(make([]int, size)), 0)
		expectLastIsGreatest(t, impl.NewDevice(size))
	}
}

// The greatest stamp is that of any page, and the others have one less, or all stamps below.
func TestP83TheGreatestStampMayStandAnywhere(t *testing.T) {
	for size := 1; size <= mostBlocks; size++ {
		for at := 0; at < size*pagesOfBlock; at++ {
			for _, greatest := range []int{2, 100, mostStamp} {
				d := withStamps(fullDevice(size), func(k int) int {
					if k == at {
						return greatest
					}
					return greatest - 1
				})
				expectLast(t, d, greatest)
				expectSince(t, d, impl.LastStamp(d)-1, []int{at})
			}
			d := withStamps(fullDevice(size), func(k int) int { return 100 + (k-at+mostPages)%mostPages*7 })
			expectLastIsGreatest(t, d)
		}
	}
}

func TestP83OnePageAlone(t *testing.T) {
	for size := 1; size <= mostBlocks; size++ {
		for n := 0; n < size; n++ {
			for _, p := range validPages() {
				d := withBlock(deviceOf(make([]int, size)), n, withPage(blockWith(5, 0), 0, p))
				expectLast(t, d, p.Stamp)
				expectLastIsGreatest(t, d)
			}
		}
	}
}

func TestP83AllDevices(t *testing.T) {
	for _, d := range slices.Concat(devicesToRoll(), validDevices(), smallDevices()) {
		expectLastIsGreatest(t, d)
	}
	for _, stamps := range listsOf([]int{1, 2, 3}, 6) {
		expectLastIsGreatest(t, stampedDevice([][]int{stamps[:4], stamps[4:]}))
	}
}

func TestP83OtherDevicesHaveNoLastStamp(t *testing.T) {
	for _, d := range invalidDevices() {
		expectLast(t, d, -1)
	}
}

// P84: devices can be mounted.

// pairOf returns two saves in both orders.
func pairOf(a impl.Save, b impl.Save) [][2]impl.Save {
	return [][2]impl.Save{{a, b}, {b, a}}
}

// savesToMount are good saves of a few tables and numbers, each followed by broken ones.
func savesToMount() []impl.Save {
	var saves []impl.Save
	for _, s := range []impl.Save{
		saveOf(noPages(), 0), saveOf(shiftedPages(29), 4), saveOf(everySecond(ascendingPages(), 1), 4), saveOf(withNumber(noPages(), 15, 3), mostStamp),
	} {
		saves = append(append(saves, s), firstBroken(s)...)
	}
	return saves
}

// stampsToMount are the numbers of saves, the last stamp, and the limits.
func stampsToMount(d []impl.Block) []int {
	return []int{math.MinInt, -1, 0, 4, lastBySorting(d) - 1, lastBySorting(d), lastBySorting(d) + 1, mostStamp, math.MaxInt}
}

func TestP84SomeDevices(t *testing.T) {
	d := splitDevice([]impl.Page{written(2, 1, 5, 1), written(0, 0, 7, 3), written(2, 1, 6, 4)}, []int{2, 1})
	older := impl.SaveTable(tableOf(withNumber(noPages(), 13, 0)), 1)
	newer := impl.SaveTable(tableOf(withTwoNumbers(noPages(), 13, 0, 0, 1)), 3)
	cut := impl.Save{Number: 3, Pages: newer.Pages[:30], Sum: newer.Sum}
	own := tableOf(withTwoNumbers(noPages(), 13, 4, 0, 1))
	for _, saves := range pairOf(older, newer) {
		expectMount(t, d, saves, 3, own, true)
		expectMount(t, d, saves, 4, tableOf(withTwoNumbers(noPages(), 13, 0, 0, 1)), true)
	}
	for _, saves := range pairOf(older, cut) {
		expectMount(t, d, saves, 1, own, true)
		expectMount(t, d, saves, 3, tableOf(withNumber(noPages(), 13, 4)), true)
		expectMount(t, d, saves, 4, tableOf(withNumber(noPages(), 13, 0)), true)
	}
	for _, saves := range pairOf(impl.Save{}, cut) {
		for _, stamp := range []int{math.MinInt, -1, 1, 3, 4, math.MaxInt} {
			expectMount(t, d, saves, stamp, own, true)
			expectNotMounted(t, nil, saves, stamp)
		}
	}
	for _, saves := range pairOf(older, newer) {
		expectNotMounted(t, nil, saves, 3)
		expectNotMounted(t, d[:0], saves, 3)
	}
}

// The stamp since which pages are rolled is told: the numbers of the saves only tell which one counts.
func TestP84OfTwoGoodSavesTheGreaterNumberCounts(t *testing.T) {
	for _, d := range someDevicesToRoll() {
		for _, first := range []int{0, 4, 5, primeOfSaves, mostStamp} {
			for _, second := range []int{0, 4, 5, primeOfSaves + 1, mostStamp} {
				a, b := saveOf(ascendingPages(), first), saveOf(everySecond(shiftedPages(5), 0), second)
				counts := a
				if second > first {
					counts = b
				}
				for _, stamp := range append(stampsToMount(d), first, second) {
					expectMount(t, d, [2]impl.Save{a, b}, stamp, rolledByPlaces(d, tableOf(counts.Pages), stamp), true)
				}
			}
		}
	}
}

func TestP84OfTheSameNumberTheFirstSaveCounts(t *testing.T) {
	for _, d := range someDevicesToRoll() {
		for _, number := range []int{0, 4, mostStamp} {
			a, b := saveOf(shiftedPages(7), number), saveOf(withNumber(noPages(), 15, 3), number)
			for _, stamp := range stampsToMount(d) {
				expectMount(t, d, [2]impl.Save{a, b}, stamp, rolledByPlaces(d, tableOf(a.Pages), stamp), true)
				expectMount(t, d, [2]impl.Save{b, a}, stamp, rolledByPlaces(d, tableOf(b.Pages), stamp), true)
				expectMounted(t, d, [2]impl.Save{a, a}, stamp)
			}
		}
	}
}

// The broken save is the first or the second one, and has a lesser number, the same, or a greater one.
func TestP84BesideABrokenSaveTheGoodOneCounts(t *testing.T) {
	good := saveOf(shiftedPages(3), 4)
	for _, d := range someDevicesToRoll() {
		for _, other := range []int{0, 3, 4, 5, mostStamp} {
			for _, broken := range firstBroken(saveOf(everySecond(shiftedPages(5), 0), other)) {
				for _, saves := range pairOf(good, broken) {
					for _, stamp := range []int{-1, 4, other, lastBySorting(d)} {
						expectMount(t, d, saves, stamp, rolledByPlaces(d, tableOf(good.Pages), stamp), true)
					}
				}
			}
		}
	}
}

func TestP84BesideEveryBrokenSaveTheGoodOneCounts(t *testing.T) {
	d := withStamps(placedDevice([]int{4, 2, 1}, 29), func(k int) int { return 2 + k })
	good := saveOf(shiftedPages(3), 4)
	for _, broken := range brokenSaves(saveOf(everySecond(shiftedPages(5), 0), 5)) {
		for _, saves := range pairOf(good, broken) {
			expectMount(t, d, saves, 4, rolledByPlaces(d, tableOf(shiftedPages(3)), 4), true)
		}
		expectMount(t, d, [2]impl.Save{broken, broken}, 4, newestPages(d), true)
	}
}

// Without a save the stamp does not matter: all pages count, also those from before it.
func TestP84WithoutSavesItIsTableOf(t *testing.T) {
	broken := firstBroken(saveOf(ascendingPages(), 4))
	for k, d := range devicesToRoll() {
		own := newestPages(d)
		saves := [2]impl.Save{broken[k%len(broken)], broken[k/2%len(broken)]}
		for _, stamp := range stampsToMount(d) {
			expectMount(t, d, [2]impl.Save{}, stamp, own, true)
			expectMount(t, d, saves, stamp, own, true)
		}
	}
	// Of two pages with the same stamp it is the first one, as in TableOf; rolled from a save without pages on it is the last one.
	d := stampedDevice([][]int{{9, 9}, {9}})
	expectMount(t, d, [2]impl.Save{}, -1, tableOf(withNumber(noPages(), 20, 0)), true)
	expectMount(t, d, [2]impl.Save{saveOf(noPages(), 0)}, -1, tableOf(withNumber(noPages(), 20, 4)), true)
}

func TestP84AllPairsOfSaves(t *testing.T) {
	devices := [][]impl.Block{twoFiles(), impl.NewDevice(2), withStamps(placedDevice([]int{4, 4, 3, 0}, 7), func(k int) int { return 9 - k%5 })}
	for _, d := range devices {
		for _, a := range savesToMount() {
			for _, b := range savesToMount() {
				for _, stamp := range []int{-1, 4, 7} {
					expectMounted(t, d, [2]impl.Save{a, b}, stamp)
				}
			}
		}
	}
}

func TestP84AllDevices(t *testing.T) {
	for _, d := range append(devicesToRoll(), validDevices()...) {
		x := newestPages(upTo(d, 20))
		full := saveOf(shiftedPages(29), 20)
		for _, saves := range [][2]impl.Save{{saveOf(numbersOf(x), 20), full}, {saveOf(numbersOf(x), 19), full}} {
			expectMounted(t, d, saves, 20)
			expectMounted(t, d, saves, -1)
		}
	}
}

// It is possible for these devices, whatever the saves are, and for no others.
func TestP84ValidDevicesCanBeMounted(t *testing.T) {
	good, broken := saveOf(shiftedPages(3), 4), withOldSum(saveOf(ascendingPages(), 5), ascendingPages()[:7])
	pairs := [][2]impl.Save{{good, good}, {good, broken}, {broken, good}, {broken, broken}, {}}
	for _, d := range append(validDevices(), smallDevices()...) {
		for _, saves := range pairs {
			if _, done := impl.MountTable(d, saves[0], saves[1], 4); !done || !impl.DeviceValid(d) {
				t.Errorf("MountTable(%+v, %+v, %+v, 4): %t", d, saves[0], saves[1], done)
			}
		}
	}
	for _, d := range invalidDevices() {
		for _, saves := range pairs {
			expectNotMounted(t, d, saves, 4)
		}
		for _, stamp := range []int{math.MinInt, -1, mostStamp, math.MaxInt} {
			expectNotMounted(t, d, pairs[0], stamp)
			expectNotMounted(t, d, [2]impl.Save{}, stamp)
		}
	}
}

func TestP84WithAWrongBlockADeviceIsNotMounted(t *testing.T) {
	for _, wrong := range invalidBlocks() {
		for _, size := range []int{1, 2, mostBlocks} {
			for _, n := range blocksOfSize(size) {
				d := withBlock(placedDevice(slices.Repeat([]int{2}, size), 1), n, wrong)
				expectNotMounted(t, d, [2]impl.Save{}, -1)
				expectNotMounted(t, d, [2]impl.Save{saveOf(ascendingPages(), 0)}, -1)
				expectNotMounted(t, d, [2]impl.Save{saveOf(ascendingPages(), 4), saveOf(noPages(), 5)}, mostStamp)
			}
		}
	}
}

// The table of the save names pages that are free, or on no block of the device: they stay in it.
func TestP84SavesOfPagesThatAreFree(t *testing.T) {
	d := withStamps(placedDevice([]int{1, 0}, 1), func(k int) int { return 3 })
	for n := 1; n < allPlaces; n++ {
		for _, at := range []int{1, 7, 8, mostPages - 1} {
			s := saveOf(withNumber(noPages(), n, at), 2)
			expectMount(t, d, [2]impl.Save{s}, 2, tableOf(withTwoNumbers(noPages(), n, at, 0, 0)), true)
			expectMount(t, d, [2]impl.Save{{}, s}, 3, tableOf(withNumber(noPages(), n, at)), true)
		}
	}
	for _, x := range validTables() {
		s := saveOf(numbersOf(x), 2)
		expectMount(t, impl.NewDevice(1), [2]impl.Save{s, s}, -1, x, true)
		expectMounted(t, d, [2]impl.Save{s}, 2)
	}
}

// mountSince expects that a device in use can be mounted since the number of the save that counts, and has its table then.
func (f *fileSystem) mountSince(t *testing.T, saves [2]impl.Save) {
	t.Helper()
	_, number, _ := impl.NewerSave(saves[0], saves[1])
	expectMount(t, f.d, saves, number, f.x, true)
}

// saveIn saves the table of a device in use in one of two saves, page by page: before the last one the other save counts.
func (f *fileSystem) saveIn(t *testing.T, saves [2]impl.Save, n int) [2]impl.Save {
	t.Helper()
	s := impl.SaveTable(f.x, f.last)
	for many := 0; many < allPlaces; many += 5 {
		saves[n] = withOldSum(s, s.Pages[:many])
		f.mountSince(t, saves)
	}
	saves[n] = s
	f.mountSince(t, saves)
	return saves
}

// mountInUse writes values again and again and cleans victims, with a save now and then, and mounts the device after every write and every cleaning; it returns how often a block was cleaned.
func mountInUse(t *testing.T, size int, places int, every int) int {
	t.Helper()
	f := &fileSystem{impl.NewDevice(size), tableOf(noPages()), noHeads(), 0, noPages()}
	saves := [2]impl.Save{}
	cleaned := 0
	for k := 0; k < 25*size; k++ {
		if !f.write((k*k*13+k/5)%places*11%allPlaces, (k*577+3)%10000) {
			t.Fatalf("%+v: no room for the write %d", f, k)
		}
		f.mountSince(t, saves)
		for impl.FreePages(f.d) < 2*pagesOfBlock {
			if !f.clean(t, impl.GreedyVictim(f.d, f.x, f.h)) {
				t.Fatalf("%+v: the victim could not be cleaned", f)
			}
			cleaned++
			f.mountSince(t, saves)
		}
		if k%every == every-1 {
			saves = f.saveIn(t, saves, k/every%2)
		}
		expectLast(t, f.d, f.last)
	}
	return cleaned
}

// Pages that a save names are erased and written for other places before the next save: with the pages since, the table is that of the device all the same.
func TestP84DevicesInUseCanBeMounted(t *testing.T) {
	for _, size := range []int{5, 8, mostBlocks} {
		for _, places := range []int{3, 2 * size} {
			for _, every := range []int{1, 7, 60} {
				if mountInUse(t, size, places, every) < size {
					t.Errorf("%d blocks, %d places: hardly any block was cleaned", size, places)
				}
			}
		}
	}
}

// What is given and what is returned share no memory.

// rollDeviceCalls are calls with tables and saves that are good or not, since stamps before all pages, among them and behind them; what they return is written into.
func rollDeviceCalls() []deviceCall {
	calls := []deviceCall{{"LastStamp", func(d []impl.Block) []impl.Block { impl.LastStamp(d); return nil }}}
	for _, stamp := range []int{-1, 980, mostStamp} {
		calls = append(calls, deviceCall{"PagesSince", func(d []impl.Block) []impl.Block {
			overwriteLists([][]int{impl.PagesSince(d, stamp)})
			return nil
		}})
		for _, x := range []impl.Table{tableOf(noPages()), tableOf(shiftedPages(29)), {}} {
			calls = append(calls, deviceCall{"RollForward", func(d []impl.Block) []impl.Block {
				overwriteTable(impl.RollForward(d, x, stamp))
				return nil
			}})
		}
		for _, s := range []impl.Save{{}, saveOf(noPages(), 4), saveOf(shiftedPages(29), 4)} {
			calls = append(calls, deviceCall{"MountTable", func(d []impl.Block) []impl.Block {
				x, _ := impl.MountTable(d, impl.Save{}, s, stamp)
				overwriteTable(x)
				return nil
			}})
		}
	}
	return calls
}

func TestDevicesGivenForRollingAreNotWrittenTo(t *testing.T) {
	for _, c := range rollDeviceCalls() {
		for _, d := range devicesInMemory() {
			expectGivenNotWritten(t, c, d)
		}
	}
}

// What is written into pages that were told, or behind them, does not change those that are told again; nor does what is written into the device.
func TestPagesSinceShareNoMemory(t *testing.T) {
	for _, d := range devicesInMemory() {
		for _, stamp := range []int{-1, 980, mostStamp} {
			given := deviceWithRoom(d)
			pages := impl.PagesSince(given, stamp)
			before := slices.Clone(pages)
			overwriteLists([][]int{impl.PagesSince(given, stamp)})
			expectSince(t, given, stamp, before)
			overwriteDevice(given)
			if !slices.Equal(pages, before) {
				t.Fatalf("PagesSince(%+v, %d) shares memory with it, or with another result", d, stamp)
			}
		}
	}
}

// devicesForRolling are devices for tests with many tables and saves: with pages of their own places and of others, one without pages, and one that is not valid.
func devicesForRolling() [][]impl.Block {
	mixed := withStamps(placedDevice([]int{4, 2, 0, 3}, 29), func(k int) int { return 9 - k%5 })
	return [][]impl.Block{mixed, twoFiles(), deviceForNumbers(shiftedPages(1)), impl.NewDevice(1), nil}
}

// rollTableCalls are calls since stamps before all pages, among them and behind them.
func rollTableCalls() []tableCall {
	var calls []tableCall
	for _, d := range devicesForRolling() {
		for _, stamp := range []int{-1, 5, mostStamp} {
			calls = append(calls, tableCall{"RollForward", func(x impl.Table) impl.Table { return impl.RollForward(d, x, stamp) }})
		}
	}
	return calls
}

func TestTablesGivenForRollingAreNotWrittenTo(t *testing.T) {
	for _, c := range rollTableCalls() {
		for _, x := range tablesInMemory() {
			expectTableNotWritten(t, c, x)
		}
	}
}

func TestRolledTablesShareNoMemory(t *testing.T) {
	for _, c := range rollTableCalls() {
		for _, x := range tablesInMemory() {
			expectNewTable(t, c, x)
			expectListsApart(t, c.name, c.call(x))
		}
	}
}

// What is written into the table or the device that was given does not change the rolled table.
func TestP12RolledTablesStayWhenTheGivenOnesAreWrittenTo(t *testing.T) {
	for _, d := range devicesForRolling() {
		for _, x := range validTables() {
			for _, stamp := range []int{-1, 5, mostStamp} {
				givenDevice, givenTable := deviceWithRoom(d), tableWithRoom(x)
				after := impl.RollForward(givenDevice, givenTable, stamp)
				before := cloneTable(after)
				overwriteDevice(givenDevice)
				overwriteTable(givenTable)
				if !sameTable(after, before) {
					t.Fatalf("RollForward(%+v, %v, %d) = %v, which shares memory with them", d, x, stamp, before)
				}
			}
		}
	}
}

// mountCalls are calls with the save as the first one, the second one, or both, beside none and a good one.
func mountCalls() []saveCall {
	var calls []saveCall
	for _, d := range devicesForRolling() {
		for _, stamp := range []int{-1, 5, mostStamp} {
			calls = append(calls, saveCall{"MountTable twice", func(s impl.Save) impl.Table { x, _ := impl.MountTable(d, s, s, stamp); return x }})
			for _, other := range []impl.Save{{}, saveOf(shiftedPages(3), 2)} {
				calls = append(calls, saveCall{"MountTable first", func(s impl.Save) impl.Table {
					x, _ := impl.MountTable(d, s, other, stamp)
					return x
				}}, saveCall{"MountTable second", func(s impl.Save) impl.Table {
					x, _ := impl.MountTable(d, other, s, stamp)
					return x
				}})
			}
		}
	}
	return calls
}

func TestSavesGivenForMountingAreNotWrittenTo(t *testing.T) {
	for _, c := range mountCalls() {
		for _, s := range savesToMount() {
			expectSaveNotWritten(t, c, s)
		}
	}
}

func TestMountedTablesShareNoMemory(t *testing.T) {
	for _, c := range mountCalls() {
		for _, s := range savesToMount() {
			expectNewTableOfSave(t, c, s)
		}
	}
}

// What is written into a save or the device, or behind them, does not change the table that was mounted.
func TestP84MountedTablesStayWhenTheGivenOnesAreWrittenTo(t *testing.T) {
	for _, c := range mountCalls() {
		for _, s := range savesToMount() {
			expectTableStays(t, c, s)
		}
	}
	for _, d := range devicesForRolling() {
		for _, s := range savesToMount() {
			given := deviceWithRoom(d)
			x, _ := impl.MountTable(given, s, impl.Save{}, 5)
			before := cloneTable(x)
			overwriteDevice(given)
			if !sameTable(x, before) {
				t.Fatalf("MountTable(%+v, %+v, none, 5) = %v, which shares memory with the device", d, s, before)
			}
		}
	}
}

// A device may be given whose blocks share their pages: each page has a number of its own all the same.
func TestBlocksGivenForRollingMayShareMemory(t *testing.T) {
	for size := 1; size <= mostBlocks; size++ {
		for many := 0; many <= pagesOfBlock; many++ {
			shared := slices.Repeat([]impl.Block{blockWith(5, many)}, size)
			for _, stamp := range numbersSince(shared) {
				expectByStamps(t, shared, stamp)
				expectRolled(t, shared, tableOf(noPages()), stamp)
				expectRolled(t, shared, tableOf(shiftedPages(29)), stamp)
				expectMounted(t, shared, [2]impl.Save{saveOf(ascendingPages(), 4)}, stamp)
				expectMounted(t, shared, [2]impl.Save{}, stamp)
			}
			expectLastIsGreatest(t, shared)
		}
	}
}

// A table may be given whose lists share their numbers, if all are -1, and saves that share their pages: what is returned must not do so.
func TestListsGivenForRollingMayShareMemory(t *testing.T) {
	for _, d := range someDevicesToRoll() {
		shared := impl.Table{At: slices.Repeat([][]int{slices.Repeat([]int{-1}, placesOfFile)}, filesOfTable)}
		s := saveOf(noPages(), 4)
		later := impl.Save{Number: 5, Pages: s.Pages, Sum: sumByPowers(5, s.Pages)}
		for _, stamp := range numbersSince(d) {
			expectRolled(t, d, shared, stamp)
			expectListsApart(t, "RollForward", impl.RollForward(d, shared, stamp))
			expectMounted(t, d, [2]impl.Save{s, later}, stamp)
			x, _ := impl.MountTable(d, s, later, stamp)
			expectListsApart(t, "MountTable", x)
		}
	}
}
