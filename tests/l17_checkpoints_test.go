package tests

import (
	"math"
	"slices"
	"testing"

	"loop.example/flashfiles/impl"
)

// primeOfSaves is what sums are reckoned by.
const primeOfSaves = 99991

// isNumberOfSave reckons whether a save can have a number.
func isNumberOfSave(number int) bool {
	return number == min(max(number, 0), mostStamp)
}

// haveSum reckons whether a number and pages have a sum.
func haveSum(number int, pages []int) bool {
	for _, at := range pages {
		if at != min(max(at, -1), mostPages-1) {
			return false
		}
	}
	return isNumberOfSave(number) && len(pages) <= allPlaces
}

// sumByPowers reckons a sum from the last page on: what stands before it counts 127 times as much.
func sumByPowers(number int, pages []int) int {
	sum, power := 0, 1
	for n := len(pages) - 1; n >= 0; n-- {
		sum += power * (pages[n] + 2)
		power = power * 127 % primeOfSaves
	}
	return (sum + power*number) % primeOfSaves
}

// sumOrNone reckons what SaveSum returns: the sum, or -1 if there is none.
func sumOrNone(number int, pages []int) int {
	if !haveSum(number, pages) {
		return -1
	}
	return sumByPowers(number, pages)
}

// saveOf returns the save of a table that has some pages, file by file, and in each by places.
func saveOf(pages []int, number int) impl.Save {
	return impl.Save{Number: number, Pages: slices.Clone(pages), Sum: sumByPowers(number, pages)}
}

func cloneSave(s impl.Save) impl.Save {
	s.Pages = slices.Clone(s.Pages)
	return s
}

func sameSave(a impl.Save, b impl.Save) bool {
	return a.Number == b.Number && slices.Equal(a.Pages, b.Pages) && a.Sum == b.Sum
}

func withSum(s impl.Save, sum int) impl.Save {
	return impl.Save{Number: s.Number, Pages: slices.Clone(s.Pages), Sum: sum}
}

// withOldSum returns a save with other pages and the sum that it had.
func withOldSum(s impl.Save, pages []int) impl.Save {
	return impl.Save{Number: s.Number, Pages: slices.Clone(pages), Sum: s.Sum}
}

// withNewSum returns a save with other pages and their own sum, -1 if there is none.
func withNewSum(s impl.Save, pages []int) impl.Save {
	return impl.Save{Number: s.Number, Pages: slices.Clone(pages), Sum: sumOrNone(s.Number, pages)}
}

// canBeLoaded reckons whether a save is that of a table.
func canBeLoaded(s impl.Save) bool {
	return len(s.Pages) == allPlaces && haveSum(s.Number, s.Pages) && s.Sum == sumByPowers(s.Number, s.Pages) && !hasTwice(s.Pages)
}

// hasTwice reckons whether a page stands at two places.
func hasTwice(pages []int) bool {
	pages = slices.DeleteFunc(slices.Clone(pages), func(at int) bool { return at == -1 })
	slices.Sort(pages)
	return len(slices.Compact(pages)) < len(pages)
}

// newestSave reckons which of two saves has the table that counts, from 0 on: it sorts those that can be loaded; -1 for none.
func newestSave(saves [2]impl.Save) int {
	found := slices.DeleteFunc([]int{0, 1}, func(n int) bool { return !canBeLoaded(saves[n]) })
	slices.SortStableFunc(found, func(a int, b int) int { return saves[b].Number - saves[a].Number })
	if len(found) == 0 {
		return -1
	}
	return found[0]
}

// saveNumbers are numbers of saves: the least, some on both sides of what sums are reckoned by, and the greatest.
func saveNumbers() []int {
	return []int{0, 1, 2, 127, primeOfSaves - 1, primeOfSaves, primeOfSaves + 1, 2 * primeOfSaves, mostStamp - 1, mostStamp}
}

func wrongSaveNumbers() []int {
	return []int{
		-1, -2, -primeOfSaves, 1 - primeOfSaves, -mostStamp, mostStamp + 1, mostStamp + 2, mostStamp + primeOfSaves,
		math.MinInt, math.MinInt + 1, math.MaxInt - 1, math.MaxInt,
	}
}

// edgePages are the least and the greatest pages that are saved, and some between.
func edgePages() []int {
	return []int{-1, 0, 1, 23, mostPages - 2, mostPages - 1}
}

// manyPages are so many pages in some orders, some of them with pages twice: that does not matter for a sum.
func manyPages(many int) [][]int {
	descending := ascendingPages()
	slices.Reverse(descending)
	lists := [][]int{ascendingPages()[:many], descending[:many], shiftedPages(29)[:many], everySecond(ascendingPages(), 0)[:many]}
	for _, at := range []int{-1, 0, 23, mostPages - 1} {
		lists = append(lists, slices.Repeat([]int{at}, many))
	}
	return lists
}

// listsToSum are lists of every number of pages that have a sum.
func listsToSum() [][]int {
	lists := [][]int{nil, {}}
	for many := 1; many <= allPlaces; many++ {
		lists = append(lists, manyPages(many)...)
	}
	return lists
}

// tablesToSave are the valid tables of chapter 7, and ones with a page at the first or the last place of the first, a middle and the last file.
func tablesToSave() []impl.Table {
	tables := validTables()
	for _, file := range []int{0, 4, filesOfTable - 1} {
		for _, place := range []int{0, placesOfFile - 1} {
			for _, at := range []int{0, 23, mostPages - 1} {
				tables = append(tables, tableOf(withNumber(noPages(), file*placesOfFile+place, at)))
			}
		}
	}
	return tables
}

// pagesOfSaves are the pages of a few tables: none, some, all but the last one, and all.
func pagesOfSaves() [][]int {
	return [][]int{
		noPages(),
		withNumber(noPages(), 15, 3),
		everySecond(ascendingPages(), 1),
		withNumber(shiftedPages(1), allPlaces-1, -1),
		shiftedPages(29),
	}
}

// someSaves are a few saves that can be loaded.
func someSaves() []impl.Save {
	var saves []impl.Save
	for _, pages := range pagesOfSaves() {
		for _, number := range []int{0, 4, primeOfSaves, mostStamp} {
			saves = append(saves, saveOf(pages, number))
		}
	}
	return saves
}

// otherSizes are the pages of a save when it was cut off anywhere, before its first page, too, and with pages behind them.
func otherSizes(pages []int) [][]int {
	lists := [][]int{pages[1:], slices.Concat(pages, pages)}
	for many := 0; many < allPlaces; many++ {
		lists = append(lists, pages[:many])
	}
	for _, at := range edgePages() {
		lists = append(lists, append(slices.Clone(pages), at), append([]int{at}, pages...))
	}
	return lists
}

// cutSaves are a save with fewer pages or with more, each with the old sum, with its own, and with the one that it would have if it were not too long.
func cutSaves(s impl.Save) []impl.Save {
	var saves []impl.Save
	for _, pages := range otherSizes(s.Pages) {
		saves = append(saves, withOldSum(s, pages), withNewSum(s, pages), saveOf(pages, s.Number))
	}
	return saves
}

// otherSums are sums that a save does not have.
func otherSums(sum int) []int {
	return []int{
		sum - 1, sum + 1, -1, -2, -sum - 1, sum - primeOfSaves, sum + primeOfSaves, sum + 10*primeOfSaves, primeOfSaves, primeOfSaves + 1, -primeOfSaves - 1,
		math.MinInt, math.MinInt + 1, math.MaxInt - 1, math.MaxInt,
	}
}

// savesWithOtherSums are a save with every other sum of the tests, also 0 if that is another one.
func savesWithOtherSums(s impl.Save) []impl.Save {
	var saves []impl.Save
	for _, sum := range append(otherSums(s.Sum), 0, s.Number) {
		if sum != s.Sum {
			saves = append(saves, withSum(s, sum))
		}
	}
	return saves
}

// savesOfOtherNumbers are a save with another number and its old sum, and with numbers out of bounds, also with the sum that these would have, and with -1.
func savesOfOtherNumbers(s impl.Save) []impl.Save {
	var saves []impl.Save
	for _, number := range []int{s.Number - 1, s.Number + 1, s.Number + 2, s.Number + 1000} {
		saves = append(saves, impl.Save{Number: number, Pages: slices.Clone(s.Pages), Sum: s.Sum})
	}
	for _, number := range wrongSaveNumbers() {
		for _, sum := range []int{s.Sum, -1, 0, sumByPowers(number%primeOfSaves, s.Pages)} {
			saves = append(saves, impl.Save{Number: number, Pages: slices.Clone(s.Pages), Sum: sum})
		}
	}
	return saves
}

// savesWithWrongPages are a save with a page that no table has, or that is there already, at some places, each with the old sum, its own, the one that it would have, and -1.
func savesWithWrongPages(s impl.Save) []impl.Save {
	var saves []impl.Save
	for _, n := range somePlaces() {
		twice := slices.DeleteFunc(slices.Clone(s.Pages), func(at int) bool { return at == -1 || at == s.Pages[n] })
		for _, at := range append(numbersOfNoPage(), twice...) {
			pages := withNumber(s.Pages, n, at)
			saves = append(saves, withOldSum(s, pages), withNewSum(s, pages), withSum(withOldSum(s, pages), -1))
			if at == -2 || at == mostPages {
				saves = append(saves, saveOf(pages, s.Number))
			}
		}
	}
	return saves
}

// savesWithOtherPages are a save with one page of a table changed, at some places, with the old sum.
func savesWithOtherPages(s impl.Save) []impl.Save {
	var saves []impl.Save
	for _, n := range somePlaces() {
		for _, at := range edgePages() {
			if at != s.Pages[n] {
				saves = append(saves, withOldSum(s, withNumber(s.Pages, n, at)))
			}
		}
	}
	return saves
}

// brokenSaves are all ways of the tests in which a save cannot be loaded any more.
func brokenSaves(s impl.Save) []impl.Save {
	return slices.Concat(
		[]impl.Save{{}, {Number: s.Number}, {Number: s.Number, Sum: s.Sum}, {Pages: s.Pages}},
		cutSaves(s), savesWithOtherSums(s), savesOfOtherNumbers(s), savesWithWrongPages(s), savesWithOtherPages(s),
	)
}

// firstBroken are a few broken saves for tests with many other arguments: the zero value, cut off, with another sum, another number, and another page.
func firstBroken(s impl.Save) []impl.Save {
	return []impl.Save{
		{},
		withOldSum(s, s.Pages[:allPlaces-1]),
		withNewSum(s, s.Pages[:allPlaces/2]),
		withSum(s, s.Sum+1),
		withSum(s, -1),
		{Number: s.Number + 1, Pages: slices.Clone(s.Pages), Sum: s.Sum},
		{Number: -1, Pages: slices.Clone(s.Pages), Sum: -1},
		{Number: mostStamp + 1, Pages: slices.Clone(s.Pages), Sum: -1},
		withNewSum(s, withNumber(s.Pages, 7, mostPages)),
		withNewSum(s, withTwoNumbers(s.Pages, 7, 40, 8, 40)),
		withOldSum(s, withNumber(s.Pages, 7, (s.Pages[7]+1)%mostPages)),
	}
}

func expectSum(t *testing.T, number int, pages []int, sum int) {
	t.Helper()
	if got := impl.SaveSum(number, pages); got != sum {
		t.Errorf("SaveSum(%d, %v) = %d, not %d", number, pages, got, sum)
	}
}

func expectSave(t *testing.T, x impl.Table, number int, s impl.Save) {
	t.Helper()
	if got := impl.SaveTable(x, number); !sameSave(got, s) {
		t.Errorf("SaveTable(%v, %d) = %+v, not %+v", x, number, got, s)
	}
}

func expectNotSaved(t *testing.T, x impl.Table, number int) {
	t.Helper()
	expectSave(t, x, number, impl.Save{})
}

// expectLoad expects a table of a save, and that it is told when it is asked for again, with the save as it was.
func expectLoad(t *testing.T, s impl.Save, x impl.Table, done bool) {
	t.Helper()
	before := cloneSave(s)
	for times := 0; times < 2; times++ {
		if got, gotDone := impl.LoadTable(s); gotDone != done || !sameTable(got, x) {
			t.Errorf("LoadTable(%+v) = %v, %t, not %v, %t", s, got, gotDone, x, done)
		}
	}
	if !sameSave(s, before) {
		t.Errorf("LoadTable writes into %+v: %+v", before, s)
	}
}

// expectNotLoaded expects what there is for saves of no table.
func expectNotLoaded(t *testing.T, s impl.Save) {
	t.Helper()
	expectLoad(t, s, impl.Table{}, false)
}

// expectLoaded expects of a save that can be loaded what promises 11 and 80 say.
func expectLoaded(t *testing.T, s impl.Save) {
	t.Helper()
	expectLoad(t, s, tableOf(s.Pages), true)
	x, _ := impl.LoadTable(s)
	expectTableValid(t, x, true)
	expectSave(t, x, s.Number, s)
}

// expectNewerSave expects the table and the number of two saves, and that both are as they were.
func expectNewerSave(t *testing.T, a impl.Save, b impl.Save, x impl.Table, number int, done bool) {
	t.Helper()
	firstBefore, secondBefore := cloneSave(a), cloneSave(b)
	got, gotNumber, gotDone := impl.NewerSave(a, b)
	if gotDone != done || gotNumber != number || !sameTable(got, x) {
		t.Errorf("NewerSave(%+v, %+v) = %v, %d, %t, not %v, %d, %t", a, b, got, gotNumber, gotDone, x, number, done)
	}
	if !sameSave(a, firstBefore) || !sameSave(b, secondBefore) {
		t.Errorf("NewerSave writes into %+v, %+v: %+v, %+v", firstBefore, secondBefore, a, b)
	}
}

// expectNewerIs expects the table and the number of a save that can be loaded.
func expectNewerIs(t *testing.T, a impl.Save, b impl.Save, s impl.Save) {
	t.Helper()
	expectNewerSave(t, a, b, tableOf(s.Pages), s.Number, true)
}

func expectNoSave(t *testing.T, a impl.Save, b impl.Save) {
	t.Helper()
	expectNewerSave(t, a, b, impl.Table{}, -1, false)
}

// expectOneIsEnough expects of two saves what chapter 17 says, and what promise 81 does.
func expectOneIsEnough(t *testing.T, a impl.Save, b impl.Save) {
	t.Helper()
	saves := [2]impl.Save{a, b}
	if n := newestSave(saves); n >= 0 {
		expectNewerIs(t, a, b, saves[n])
	} else {
		expectNoSave(t, a, b)
	}
	_, number, done := impl.NewerSave(a, b)
	_, firstDone := impl.LoadTable(a)
	_, secondDone := impl.LoadTable(b)
	if done != (firstDone || secondDone) {
		t.Errorf("NewerSave(%+v, %+v): %t, but one alone: %t, %t", a, b, done, firstDone, secondDone)
	}
	if firstDone && a.Number > number || secondDone && b.Number > number {
		t.Errorf("NewerSave(%+v, %+v) = %d, but one can be loaded that has a greater number", a, b, number)
	}
}

func TestLimitsOfSaves(t *testing.T) {
	if impl.SavePrime != primeOfSaves || allPlaces != 48 {
		t.Fatal(impl.SavePrime, allPlaces)
	}
}

// P79: sums notice the last page.

// These sums were worked out by hand.
func TestP79SumsOfSomePages(t *testing.T) {
	cases := []struct {
		number int
		pages  []int
		sum    int
	}{
		{0, nil, 0}, {0, []int{}, 0}, {1, nil, 1}, {99990, nil, 99990}, {99991, nil, 0}, {99992, nil, 1}, {1000000, nil, 90}, {999999, []int{}, 89},
		{0, []int{-1}, 1}, {0, []int{0}, 2}, {0, []int{47}, 49}, {1, []int{-1}, 128}, {1, []int{0}, 129}, {1, []int{47}, 176},
		{787, []int{39}, 99990}, {787, []int{40}, 0}, {787, []int{41}, 1},
		{99990, []int{-1}, 99865}, {99990, []int{47}, 99913}, {99991, []int{47}, 49}, {99992, []int{-1}, 128}, {1000000, []int{47}, 11479},
		{1, []int{-1, 0}, 16258}, {1, []int{0, -1}, 16384}, {0, []int{-1, -1}, 128}, {0, []int{47, 47}, 6272},
		{2, []int{1, 2, 3}, 46035}, {2, []int{3, 2, 1}, 78291},
	}
	for _, c := range cases {
		expectSum(t, c.number, c.pages, c.sum)
	}
}

// These sums were reckoned once with whole numbers, without a remainder before the end.
func TestP79SumsOfAllPagesOfATable(t *testing.T) {
	descending := ascendingPages()
	slices.Reverse(descending)
	expectSum(t, 0, noPages(), 60158)
	expectSum(t, 1000000, noPages(), 13375)
	expectSum(t, 5, noPages()[1:], 86316)
	expectSum(t, 0, ascendingPages(), 169)
	expectSum(t, 1000000, ascendingPages(), 53377)
	expectSum(t, 7, descending, 32301)
	expectSum(t, 0, slices.Repeat([]int{47}, allPlaces), 48003)
	expectSum(t, 99990, slices.Repeat([]int{47}, allPlaces), 67410)
}

func TestP79SumsOfNumbersAlone(t *testing.T) {
	sum := 0
	for number := 0; number <= mostStamp; number++ {
		if sum == primeOfSaves {
			sum = 0
		}
		expectSum(t, number, nil, sum)
		sum++
	}
	for _, number := range saveNumbers() {
		expectSum(t, number, []int{}, number%primeOfSaves)
	}
}

func TestP79SumsOfEveryNumberOfPages(t *testing.T) {
	for _, pages := range listsToSum() {
		for _, number := range saveNumbers() {
			expectSum(t, number, pages, sumByPowers(number, pages))
		}
	}
}

// With every sum that there can be before it, a page counts as the chapter says.
func TestP79EverySumBesideEveryPage(t *testing.T) {
	for number := 0; number <= primeOfSaves; number++ {
		for at := -1; at < mostPages; at++ {
			expectSum(t, number, []int{at}, sumByPowers(number, []int{at}))
		}
	}
}

// expectLastPageNoticed expects what promise 79 says of a list whose last page may be any.
func expectLastPageNoticed(t *testing.T, number int, before []int) {
	t.Helper()
	var sums []int
	for at := -1; at < mostPages; at++ {
		pages := append(slices.Clone(before), at)
		expectSum(t, number, pages, sumByPowers(number, pages))
		sum := impl.SaveSum(number, pages)
		if sum < 0 || sum >= primeOfSaves || slices.Contains(sums, sum) {
			t.Errorf("SaveSum(%d, %v) = %d, which is no sum, or that of another last page", number, pages, sum)
		}
		sums = append(sums, sum)
	}
}

func TestP79WithAnotherLastPageItIsAnotherSum(t *testing.T) {
	for _, number := range saveNumbers() {
		for many := 0; many < allPlaces; many++ {
			expectLastPageNoticed(t, number, ascendingPages()[:many])
			expectLastPageNoticed(t, number, slices.Repeat([]int{mostPages - 1}, many))
			expectLastPageNoticed(t, number, slices.Repeat([]int{-1}, many))
		}
	}
	// Sums on both sides of what they are reckoned by.
	for number := 780; number <= 800; number++ {
		expectLastPageNoticed(t, number, nil)
	}
}

// One other page anywhere makes another sum, too, as the sum is reckoned by a prime.
func TestP79EveryPageCounts(t *testing.T) {
	for _, pages := range pagesOfSaves() {
		for n := range pages {
			for at := -1; at < mostPages; at++ {
				changed := withNumber(pages, n, at)
				expectSum(t, 5, changed, sumByPowers(5, changed))
				if (impl.SaveSum(5, changed) == impl.SaveSum(5, pages)) != (at == pages[n]) {
					t.Errorf("SaveSum(5, %v) = %d = SaveSum(5, %v)", changed, impl.SaveSum(5, changed), pages)
				}
			}
		}
	}
}

func TestP79ChangedAboutPagesCount(t *testing.T) {
	expectSum(t, 0, []int{3, 4}, 641)
	expectSum(t, 0, []int{4, 3}, 767)
	expectSum(t, 0, []int{4, 4}, 768)
	for _, list := range append(pagesOfSaves(), ascendingPages()[:7], []int{-1, 47}, []int{5, 5}) {
		for first := range list {
			for second := first + 1; second < len(list); second++ {
				pages := withTwoNumbers(list, first, list[second], second, list[first])
				for _, number := range []int{0, primeOfSaves - 1, mostStamp} {
					expectSum(t, number, pages, sumByPowers(number, pages))
				}
			}
		}
	}
}

func TestP79OtherNumbersCount(t *testing.T) {
	for _, pages := range append(listsToSum(), pagesOfSaves()...) {
		for _, number := range []int{0, 5, primeOfSaves - 1, 9 * primeOfSaves} {
			if impl.SaveSum(number, pages) == impl.SaveSum(number+1, pages) {
				t.Errorf("SaveSum(%d, %v) = SaveSum(%d, %v) = %d", number, pages, number+1, pages, impl.SaveSum(number, pages))
			}
			// So much farther on the sum is the same.
			expectSum(t, number+primeOfSaves, pages, impl.SaveSum(number, pages))
		}
	}
}

func TestP79PlacesWithoutAPageCount(t *testing.T) {
	for _, pages := range listsToSum() {
		for _, number := range saveNumbers() {
			longer := append(slices.Clone(pages), -1)
			if len(longer) > allPlaces {
				expectSum(t, number, longer, -1)
			} else {
				expectSum(t, number, longer, (127*impl.SaveSum(number, pages)+1)%primeOfSaves)
			}
			expectSum(t, number, append([]int{-1}, pages...), sumOrNone(number, append([]int{-1}, pages...)))
		}
	}
}

func TestP79TooManyPagesHaveNoSum(t *testing.T) {
	for many := allPlaces - 2; many <= 4*allPlaces; many++ {
		for _, at := range edgePages() {
			for _, number := range saveNumbers() {
				pages := slices.Repeat([]int{at}, many)
				if many <= allPlaces {
					expectSum(t, number, pages, sumByPowers(number, pages))
				} else {
					expectSum(t, number, pages, -1)
				}
			}
		}
	}
	for _, number := range append(saveNumbers(), wrongSaveNumbers()...) {
		expectSum(t, number, make([]int, 100000), -1)
	}
}

func TestP79OtherNumbersHaveNoSum(t *testing.T) {
	for _, number := range wrongSaveNumbers() {
		for _, pages := range listsToSum() {
			expectSum(t, number, pages, -1)
		}
		for _, at := range numbersOfNoPage() {
			expectSum(t, number, []int{at}, -1)
		}
	}
}

func TestP79OtherPagesHaveNoSum(t *testing.T) {
	for many := 1; many <= allPlaces; many++ {
		for n := 0; n < many; n++ {
			for _, at := range append(numbersOfNoPage(), math.MinInt+1, math.MaxInt-1, -1-primeOfSaves, primeOfSaves) {
				for _, number := range []int{0, primeOfSaves, mostStamp} {
					expectSum(t, number, withNumber(noPages()[:many], n, at), -1)
					expectSum(t, number, withNumber(ascendingPages()[:many], n, at), -1)
				}
			}
		}
	}
}

// P11: saved tables can be loaded.

// expectSavedAndLoaded expects what chapter 17 and promises 11 and 80 say of a valid table and a number that a save can have.
func expectSavedAndLoaded(t *testing.T, x impl.Table, number int) {
	t.Helper()
	before := cloneTable(x)
	expectSave(t, x, number, saveOf(numbersOf(x), number))
	s := impl.SaveTable(x, number)
	expectSum(t, s.Number, s.Pages, s.Sum)
	expectLoad(t, s, before, true)
	loaded, _ := impl.LoadTable(s)
	expectChanges(t, x, loaded, 0)
	expectSave(t, loaded, number, s)
	if !sameTable(x, before) {
		t.Errorf("SaveTable(%v, %d) writes into it: %v", before, number, x)
	}
}

func TestP11SomeTables(t *testing.T) {
	expectSave(t, tableOf(noPages()), 0, impl.Save{Number: 0, Pages: noPages(), Sum: 60158})
	expectSave(t, tableOf(noPages()), 1000000, impl.Save{Number: 1000000, Pages: noPages(), Sum: 13375})
	expectSave(t, tableOf(ascendingPages()), 0, impl.Save{Number: 0, Pages: ascendingPages(), Sum: 169})
	expectSave(t, tableOf(ascendingPages()), 1000000, impl.Save{Number: 1000000, Pages: ascendingPages(), Sum: 53377})
	expectLoad(t, impl.Save{Number: 0, Pages: noPages(), Sum: 60158}, tableOf(noPages()), true)
	expectLoad(t, impl.Save{Number: 1000000, Pages: ascendingPages(), Sum: 53377}, tableOf(ascendingPages()), true)
	// The page 9 at the place 3 of file 2 is behind two files and three places.
	x, _ := impl.TablePut(tableOf(noPages()), 2, 3, 9)
	s := impl.SaveTable(x, 4)
	if len(s.Pages) != 48 || s.Pages[15] != 9 || s.Pages[20] != -1 {
		t.Errorf("SaveTable(%v, 4) = %+v", x, s)
	}
	loaded, _ := impl.LoadTable(s)
	expectGet(t, loaded, 2, 3, 9)
	expectGet(t, loaded, 3, 2, -1)
}

func TestP11SavedTablesCanBeLoaded(t *testing.T) {
	for _, x := range tablesToSave() {
		for _, number := range saveNumbers() {
			expectSavedAndLoaded(t, x, number)
		}
	}
}

func TestP11EveryPageAtEveryPlace(t *testing.T) {
	for n := 0; n < allPlaces; n++ {
		for at := 0; at < mostPages; at++ {
			expectSavedAndLoaded(t, tableOf(withNumber(noPages(), n, at)), at*mostPages+n)
			expectSavedAndLoaded(t, tableOf(movedTo(ascendingPages(), n, at)), mostStamp)
		}
	}
	for by := 0; by < mostPages; by++ {
		expectSavedAndLoaded(t, tableOf(shiftedPages(by)), by)
	}
}

func TestP11TablesOfDevices(t *testing.T) {
	for _, d := range append(validDevices(), smallDevices()...) {
		expectSavedAndLoaded(t, impl.TableOf(d), 1+len(d))
	}
}

// A device is written until it is full, and the table is saved after every write.
func TestP11TablesInUse(t *testing.T) {
	for _, size := range []int{1, 2, mostBlocks} {
		d, h, at := impl.NewDevice(size), noHeads(), 0
		for stamp := 1; at >= 0; stamp++ {
			x := impl.TableOf(d)
			expectSavedAndLoaded(t, x, stamp-1)
			loaded, _ := impl.LoadTable(impl.SaveTable(x, stamp-1))
			for file := 0; file < filesOfTable; file++ {
				values, done := impl.FileValues(d, x, file)
				expectValues(t, d, loaded, file, values, done)
			}
			d, h, at = impl.AppendPage(d, h, warm, written(stamp*3%8, stamp*5%6, stamp, stamp))
		}
	}
}

func TestP11WithOtherNumbersNoTableIsSaved(t *testing.T) {
	for _, number := range wrongSaveNumbers() {
		for _, x := range append(tablesToSave(), someInvalidTables()...) {
			expectNotSaved(t, x, number)
		}
	}
}

func TestP11OtherTablesAreNotSaved(t *testing.T) {
	for _, x := range invalidTables() {
		for _, number := range []int{0, 1, primeOfSaves, mostStamp} {
			expectNotSaved(t, x, number)
		}
	}
	expectNotSaved(t, impl.Table{At: nil}, 0)
	// In the first and in the last file there is a place too few, or too many.
	for _, file := range []int{0, filesOfTable - 1} {
		for _, many := range []int{0, placesOfFile - 1, placesOfFile + 1} {
			expectNotSaved(t, withList(tableOf(noPages()), file, slices.Repeat([]int{-1}, many)), 4)
		}
	}
	// A page is there twice, in one file and in two.
	expectNotSaved(t, tableWithTwice(9, 2, 3), 4)
	expectNotSaved(t, tableWithTwice(9, 2, placesOfFile+3), 4)
	expectNotSaved(t, tableOf(withNumber(noPages(), 0, -2)), 4)
	expectNotSaved(t, tableOf(withNumber(noPages(), allPlaces-1, mostPages)), 4)
}

// A zero value, as SaveTable returns it for what cannot be saved, can be loaded for no table.
func TestP11WhatIsNotSavedIsNotLoaded(t *testing.T) {
	expectNotLoaded(t, impl.SaveTable(impl.Table{}, 0))
	expectNotLoaded(t, impl.SaveTable(tableOf(noPages()), -1))
	expectNotLoaded(t, impl.SaveTable(tableOf(noPages()), mostStamp+1))
	expectNotLoaded(t, impl.Save{Pages: []int{}})
}

// P80: loaded saves are saves.

func TestP80LoadedSavesAreSaves(t *testing.T) {
	for _, s := range someSaves() {
		expectLoaded(t, s)
	}
}

func TestP80CutSavesAreNotLoaded(t *testing.T) {
	for _, s := range someSaves() {
		for _, cut := range cutSaves(s) {
			expectNotLoaded(t, cut)
		}
	}
}

// Where only the last place, the last file or half of the files is missing, the rest of the table would be valid.
func TestP80SavesCutOffAtSomePlaces(t *testing.T) {
	s := impl.SaveTable(tableOf(noPages()), 7)
	for _, many := range []int{0, 1, placesOfFile, allPlaces / 2, allPlaces - placesOfFile, allPlaces - 1} {
		cut := impl.Save{Number: 7, Pages: s.Pages[:many], Sum: s.Sum}
		expectNotLoaded(t, cut)
		expectNotLoaded(t, withSum(cut, impl.SaveSum(7, cut.Pages)))
	}
	longer := impl.Save{Number: 7, Pages: append(slices.Clone(s.Pages), -1), Sum: s.Sum}
	expectSum(t, 7, longer.Pages, -1)
	expectNotLoaded(t, longer)
	expectNotLoaded(t, withSum(longer, -1))
	expectNotLoaded(t, withSum(longer, (127*s.Sum+1)%primeOfSaves))
}

// With the sum of all its pages a save is that of another table, unless a page is there twice; with the old one it is none.
func TestP80OnePageIsChanged(t *testing.T) {
	for _, s := range someSaves() {
		for n := range s.Pages {
			for at := -1; at < mostPages; at++ {
				pages := withNumber(s.Pages, n, at)
				if at == s.Pages[n] {
					expectLoaded(t, withOldSum(s, pages))
					continue
				}
				if at == -1 || !slices.Contains(s.Pages, at) {
					expectLoaded(t, withNewSum(s, pages))
				} else {
					expectNotLoaded(t, withNewSum(s, pages))
				}
				expectNotLoaded(t, withOldSum(s, pages))
			}
		}
	}
}

func TestP80PagesOfNoTableAreNotLoaded(t *testing.T) {
	for _, s := range someSaves() {
		for _, wrong := range savesWithWrongPages(s) {
			expectNotLoaded(t, wrong)
		}
	}
}

// Two pages are the same, and no other one is there: the sum is right, or not.
func TestP80PagesTwiceAreNotLoaded(t *testing.T) {
	for first := 0; first < allPlaces; first++ {
		for second := first + 1; second < allPlaces; second++ {
			for _, at := range []int{0, 23, mostPages - 1} {
				pages := withTwoNumbers(noPages(), first, at, second, at)
				expectNotLoaded(t, saveOf(pages, 5))
				expectNotLoaded(t, withSum(saveOf(pages, 5), -1))
			}
			expectLoaded(t, saveOf(withTwoNumbers(noPages(), first, 23, second, 24), 5))
		}
	}
}

// Two pages are changed about: that is another table, with another sum.
func TestP80ChangedAboutPages(t *testing.T) {
	for _, s := range []impl.Save{saveOf(ascendingPages(), 5), saveOf(shiftedPages(29), mostStamp)} {
		for first := range s.Pages {
			for second := first + 1; second < allPlaces; second++ {
				pages := withTwoNumbers(s.Pages, first, s.Pages[second], second, s.Pages[first])
				expectNotLoaded(t, withOldSum(s, pages))
				expectLoaded(t, withNewSum(s, pages))
			}
		}
	}
}

func TestP80OtherSumsAreNotLoaded(t *testing.T) {
	for _, x := range tablesToSave() {
		for _, number := range saveNumbers() {
			for _, other := range savesWithOtherSums(saveOf(numbersOf(x), number)) {
				expectNotLoaded(t, other)
			}
		}
	}
}

func TestP80OnlyOneSumIsRight(t *testing.T) {
	for _, s := range []impl.Save{saveOf(noPages(), 0), saveOf(shiftedPages(29), mostStamp)} {
		for sum := -1; sum <= primeOfSaves; sum++ {
			other := impl.Save{Number: s.Number, Pages: s.Pages, Sum: sum}
			if _, done := impl.LoadTable(other); done != (sum == s.Sum) {
				t.Fatalf("LoadTable(%+v): %t, but the sum is %d", other, done, s.Sum)
			}
		}
	}
}

// The sum of a save may be 0, or the greatest one that there is.
func TestP80EverySumCanBeThatOfASave(t *testing.T) {
	sums := map[int]bool{}
	for number := 0; number < primeOfSaves; number++ {
		s := saveOf(noPages(), number)
		sums[s.Sum] = true
		if s.Sum < 3 || s.Sum > primeOfSaves-3 || number%1000 == 0 {
			expectLoaded(t, s)
		}
	}
	if len(sums) != primeOfSaves {
		t.Errorf("there are %d sums", len(sums))
	}
}

func TestP80OtherNumbersAreNotLoaded(t *testing.T) {
	for _, s := range someSaves() {
		for _, other := range savesOfOtherNumbers(s) {
			expectNotLoaded(t, other)
		}
	}
}

// The numbers differ by as much as sums are reckoned by: then the sum is the same, and the save is that of the table with the other number, as far as there is one.
func TestP80NumbersWithTheSameSumAreLoaded(t *testing.T) {
	for _, pages := range pagesOfSaves() {
		for times := -12; times <= 22; times++ {
			s := impl.Save{Number: 3 + times*primeOfSaves, Pages: pages, Sum: sumByPowers(3, pages)}
			if times >= 0 && times <= 10 {
				expectLoaded(t, s)
			} else {
				expectNotLoaded(t, s)
			}
		}
	}
}

// SaveSum answers -1 for these, and that is their sum: they are no saves all the same.
func TestP80SumsOfMinusOneAreNotLoaded(t *testing.T) {
	for _, pages := range pagesOfSaves() {
		for _, number := range wrongSaveNumbers() {
			expectSum(t, number, pages, -1)
			expectNotLoaded(t, impl.Save{Number: number, Pages: pages, Sum: -1})
			for _, at := range numbersOfNoPage() {
				expectNotLoaded(t, impl.Save{Number: number, Pages: withNumber(pages, 20, at), Sum: -1})
			}
		}
		for n := range pages {
			for _, at := range numbersOfNoPage() {
				wrong := withNumber(pages, n, at)
				expectSum(t, 5, wrong, -1)
				expectNotLoaded(t, impl.Save{Number: 5, Pages: wrong, Sum: -1})
			}
		}
	}
}

func TestP80BrokenSavesAreNotLoaded(t *testing.T) {
	for _, s := range someSaves() {
		for _, broken := range append(brokenSaves(s), firstBroken(s)...) {
			expectNotLoaded(t, broken)
		}
	}
}

// P81: one good save is enough.

func TestP81SomeSaves(t *testing.T) {
	older, newer := saveOf(ascendingPages(), 4), saveOf(shiftedPages(1), 5)
	expectNewerSave(t, older, newer, tableOf(shiftedPages(1)), 5, true)
	expectNewerSave(t, newer, older, tableOf(shiftedPages(1)), 5, true)
	expectNewerSave(t, older, impl.Save{}, tableOf(ascendingPages()), 4, true)
	expectNewerSave(t, impl.Save{}, older, tableOf(ascendingPages()), 4, true)
	expectNewerSave(t, impl.Save{}, impl.Save{}, impl.Table{}, -1, false)
	// The newer one was cut off when the power went.
	cut := withOldSum(newer, newer.Pages[:20])
	expectNewerSave(t, older, cut, tableOf(ascendingPages()), 4, true)
	expectNewerSave(t, cut, older, tableOf(ascendingPages()), 4, true)
	expectNewerSave(t, cut, cut, impl.Table{}, -1, false)
}

func TestP81OfTwoGoodSavesTheGreaterNumberCounts(t *testing.T) {
	for _, first := range saveNumbers() {
		for _, second := range saveNumbers() {
			a, b := saveOf(ascendingPages(), first), saveOf(everySecond(shiftedPages(5), 0), second)
			if second > first {
				expectNewerIs(t, a, b, b)
			} else {
				expectNewerIs(t, a, b, a)
			}
			expectOneIsEnough(t, a, b)
		}
	}
	for number := 0; number < mostStamp; number += 9973 {
		a, b := saveOf(shiftedPages(1), number), saveOf(shiftedPages(2), number+1)
		expectNewerIs(t, a, b, b)
		expectNewerIs(t, b, a, b)
	}
}

func TestP81OfTheSameNumberTheFirstSaveCounts(t *testing.T) {
	for _, number := range saveNumbers() {
		for _, first := range pagesOfSaves() {
			for _, second := range pagesOfSaves() {
				expectNewerSave(t, saveOf(first, number), saveOf(second, number), tableOf(first), number, true)
			}
		}
	}
}

func TestP81TheSameSaveTwice(t *testing.T) {
	for _, s := range someSaves() {
		expectNewerIs(t, s, s, s)
		expectNewerIs(t, s, cloneSave(s), s)
		for _, broken := range brokenSaves(s) {
			expectNoSave(t, broken, broken)
		}
	}
}

// The good save is the first or the second one, and its number is less than that of the broken one, the same, or greater.
func TestP81BesideABrokenSaveTheGoodOneCounts(t *testing.T) {
	for _, number := range []int{0, 4, mostStamp} {
		good := saveOf(shiftedPages(3), number)
		for _, other := range []int{0, 3, 4, 5, mostStamp - 1, mostStamp} {
			for _, pages := range pagesOfSaves() {
				for _, broken := range firstBroken(saveOf(pages, other)) {
					expectNewerIs(t, good, broken, good)
					expectNewerIs(t, broken, good, good)
				}
			}
		}
	}
}

// The good save has the least number, and all broken ones greater numbers.
func TestP81BesideEveryBrokenSaveTheGoodOneCounts(t *testing.T) {
	good := saveOf(everySecond(shiftedPages(3), 1), 0)
	for _, s := range []impl.Save{saveOf(ascendingPages(), mostStamp), saveOf(noPages(), 1), saveOf(shiftedPages(7), 0)} {
		for _, broken := range brokenSaves(s) {
			expectNewerIs(t, good, broken, good)
			expectNewerIs(t, broken, good, good)
		}
	}
}

func TestP81OfTwoBrokenSavesThereIsNoTable(t *testing.T) {
	for _, first := range []int{0, 4, mostStamp} {
		for _, second := range []int{0, 5, mostStamp} {
			for _, a := range firstBroken(saveOf(ascendingPages(), first)) {
				for _, b := range firstBroken(saveOf(noPages(), second)) {
					expectNoSave(t, a, b)
				}
			}
		}
	}
}

// Good saves and broken ones of all numbers, each beside each.
func TestP81OneGoodSaveIsEnough(t *testing.T) {
	var saves []impl.Save
	for _, number := range []int{0, 1, primeOfSaves, mostStamp} {
		for _, pages := range [][]int{noPages(), ascendingPages(), everySecond(shiftedPages(29), 0)} {
			s := saveOf(pages, number)
			saves = append(append(saves, s), firstBroken(s)...)
		}
	}
	for _, a := range saves {
		for _, b := range saves {
			expectOneIsEnough(t, a, b)
		}
	}
}

// Tables are saved in turn in two saves, and the power goes while the one is written, after every number of its pages: the other one still counts.
func TestP81WhileOneIsWrittenTheOtherOneCounts(t *testing.T) {
	saves := [2]impl.Save{saveOf(noPages(), 0), {}}
	for number := 1; number <= 20; number++ {
		before, next := saves[(number+1)%2], saveOf(movedTo(shiftedPages(number), number, 0), number)
		for many := 0; many < allPlaces; many++ {
			saves[number%2] = withOldSum(next, next.Pages[:many])
			expectNewerIs(t, saves[0], saves[1], before)
		}
		saves[number%2] = next
		expectNewerIs(t, saves[0], saves[1], next)
	}
}

// What is given and what is returned share no memory.

// saveCall is a function of the chapter with all arguments but one save, and the table that it returns.
type saveCall struct {
	name string
	call func(s impl.Save) impl.Table
}

// saveCalls are calls that load the save, or the one beside it, or none.
func saveCalls() []saveCall {
	calls := []saveCall{
		{"SaveSum", func(s impl.Save) impl.Table { impl.SaveSum(s.Number, s.Pages); return impl.Table{} }},
		{"LoadTable", func(s impl.Save) impl.Table { x, _ := impl.LoadTable(s); return x }},
		{"NewerSave twice", func(s impl.Save) impl.Table { x, _, _ := impl.NewerSave(s, s); return x }},
	}
	for _, other := range []impl.Save{{}, saveOf(shiftedPages(3), 0), saveOf(shiftedPages(3), mostStamp)} {
		calls = append(calls, saveCall{"NewerSave first", func(s impl.Save) impl.Table {
			x, _, _ := impl.NewerSave(s, other)
			return x
		}}, saveCall{"NewerSave second", func(s impl.Save) impl.Table {
			x, _, _ := impl.NewerSave(other, s)
			return x
		}})
	}
	return calls
}

// savesInMemory are saves for the tests on memory: good ones, and broken ones of some of them.
func savesInMemory() []impl.Save {
	saves := append(someSaves(), brokenSaves(saveOf(everySecond(ascendingPages(), 1), 4))...)
	for _, s := range someSaves() {
		saves = append(saves, firstBroken(s)...)
	}
	return saves
}

// saveWithRoom returns a save with room behind its pages, and the pages together with that room.
func saveWithRoom(s impl.Save) (impl.Save, []int) {
	room := append(slices.Clone(s.Pages), 61, 62, 63, 64, 65, 66, 67)
	return impl.Save{Number: s.Number, Pages: room[:len(s.Pages)], Sum: s.Sum}, room
}

// expectSaveNotWritten expects that a call writes nothing into its save, nor behind it, and that what is written into the table does not, either.
func expectSaveNotWritten(t *testing.T, c saveCall, s impl.Save) {
	t.Helper()
	given, room := saveWithRoom(s)
	before := slices.Clone(room)
	x := c.call(given)
	if !sameSave(given, s) || !slices.Equal(room, before) {
		t.Fatalf("%s(%+v) writes into it", c.name, s)
	}
	overwriteTable(x)
	if !slices.Equal(room, before) {
		t.Fatalf("%s(%+v) shares memory with it", c.name, s)
	}
}

func TestSavesGivenAreNotWrittenTo(t *testing.T) {
	for _, c := range saveCalls() {
		for _, s := range savesInMemory() {
			expectSaveNotWritten(t, c, s)
		}
	}
}

// expectNewTableOfSave expects that what is written into a table does not change another result, nor one list of it another one.
func expectNewTableOfSave(t *testing.T, c saveCall, s impl.Save) {
	t.Helper()
	other := c.call(s)
	otherBefore := cloneTable(other)
	overwriteTable(c.call(s))
	if !sameTable(other, otherBefore) || !sameTable(c.call(s), otherBefore) {
		t.Fatalf("%s(%+v) shares memory with another result", c.name, s)
	}
	expectListsApart(t, c.name, other)
}

func TestTablesOfSavesShareNoMemory(t *testing.T) {
	for _, c := range saveCalls() {
		for _, s := range savesInMemory() {
			expectNewTableOfSave(t, c, s)
		}
	}
}

// expectTableStays expects that what is written into a save, or behind its pages, does not change the table that was returned for it.
func expectTableStays(t *testing.T, c saveCall, s impl.Save) {
	t.Helper()
	given, room := saveWithRoom(s)
	x := c.call(given)
	before := cloneTable(x)
	overwriteLists([][]int{room})
	if !sameTable(x, before) {
		t.Fatalf("%s(%+v) = %v, which shares memory with it", c.name, before, x)
	}
}

func TestP11LoadedTablesStayWhenTheSaveIsWrittenTo(t *testing.T) {
	for _, c := range saveCalls() {
		for _, s := range savesInMemory() {
			expectTableStays(t, c, s)
		}
	}
}

// saveTableCalls save a table, or not, for numbers that are valid or not; their result is the pages as the only list of a table.
func saveTableCalls() []tableCall {
	var calls []tableCall
	for _, number := range []int{-1, 0, 4, primeOfSaves, mostStamp, mostStamp + 1} {
		calls = append(calls, tableCall{"SaveTable", func(x impl.Table) impl.Table {
			return impl.Table{At: [][]int{impl.SaveTable(x, number).Pages}}
		}})
	}
	return calls
}

func TestTablesGivenForSavesAreNotWrittenTo(t *testing.T) {
	for _, c := range saveTableCalls() {
		for _, x := range tablesInMemory() {
			expectTableNotWritten(t, c, x)
		}
	}
}

func TestSavesReturnedShareNoMemory(t *testing.T) {
	for _, c := range saveTableCalls() {
		for _, x := range tablesInMemory() {
			expectNewTable(t, c, x)
		}
	}
}

// What is written into a table, or behind its lists, does not change its save.
func TestP11SavesStayWhenTheTableIsWrittenTo(t *testing.T) {
	for _, x := range tablesToSave() {
		given := tableWithRoom(x)
		s := impl.SaveTable(given, 4)
		overwriteTable(given)
		if !sameSave(s, saveOf(numbersOf(x), 4)) {
			t.Fatalf("SaveTable(%v, 4) = %+v, which shares memory with it", x, s)
		}
		expectLoad(t, s, x, true)
	}
}

// A table may be given whose lists share their numbers, if all are -1; and two saves may share their pages.
func TestTablesAndSavesGivenMayShareMemory(t *testing.T) {
	shared := impl.Table{At: slices.Repeat([][]int{slices.Repeat([]int{-1}, placesOfFile)}, filesOfTable)}
	s := impl.SaveTable(shared, 4)
	expectSave(t, shared, 4, saveOf(noPages(), 4))
	x, _ := impl.LoadTable(s)
	expectListsApart(t, "LoadTable", x)
	later := impl.Save{Number: 5, Pages: s.Pages, Sum: sumByPowers(5, s.Pages)}
	expectNewerIs(t, s, later, later)
	cut := impl.Save{Number: 6, Pages: s.Pages[:allPlaces-1], Sum: sumByPowers(6, s.Pages)}
	expectNewerIs(t, cut, s, s)
	x, _, _ = impl.NewerSave(later, s)
	overwriteTable(x)
	expectLoad(t, s, tableOf(noPages()), true)
	expectLoad(t, later, tableOf(noPages()), true)
}
