package tests

import (
	"math"
	"slices"
	"strconv"
	"testing"

	"loop.example/flashfiles/impl"
)

const (
	greatestHeat   = 1000
	greatestWrites = 100
	greatestRounds = 40
)

// heatByAdding reckons the heat after a round: it looks for the half of a heat, and adds every write.
func heatByAdding(heat int, writes int) int {
	after := 0
	for 2*(after+1) <= heat {
		after++
	}
	for n := 0; n < writes; n++ {
		after += 10
	}
	return min(after, greatestHeat)
}

// kindByDigits reckons the kind of a heat: a cold one has one digit, a warm one has two.
func kindByDigits(heat int) int {
	switch len(strconv.Itoa(heat)) {
	case 1:
		return cold
	case 2:
		return warm
	default:
		return hot
	}
}

// coolingByDoubling reckons how many rounds cool a heat: one for 10, and one for each time that 10 can be doubled up to it.
func coolingByDoubling(heat int) int {
	rounds := 0
	for bound := 10; bound <= heat; bound *= 2 {
		rounds++
	}
	return rounds
}

// areRounds reckons whether some numbers are those of the writes of rounds.
func areRounds(rounds []int) bool {
	for _, writes := range rounds {
		if writes != min(max(writes, 0), greatestWrites) {
			return false
		}
	}
	return len(rounds) <= greatestRounds
}

// heatAfterAll reckons the heat after some rounds: it checks all of them before the first one.
func heatAfterAll(rounds []int) int {
	if !areRounds(rounds) {
		return -1
	}
	heat := 0
	for _, writes := range rounds {
		heat = heatByAdding(heat, writes)
	}
	return heat
}

func wrongHeats() []int {
	return []int{
		-1, -2, -10, -100, -greatestHeat, greatestHeat + 1, greatestHeat + 2, 2 * greatestHeat, 2*greatestHeat + 1, 10000,
		math.MinInt, math.MinInt + 1, math.MinInt / 2, math.MaxInt / 2, math.MaxInt - 1, math.MaxInt,
	}
}

// wrongWrites are numbers of writes out of bounds, among them such that 10 times them is no int: of MinInt+5 and the last two of them it would wrap around to 50 and to 2.
func wrongWrites() []int {
	return []int{
		-1, -2, -10, -greatestWrites, greatestWrites + 1, greatestWrites + 2, 2 * greatestWrites, greatestHeat, 10000,
		math.MinInt, math.MinInt + 1, math.MinInt + 5, math.MinInt / 2, math.MinInt / 10, math.MinInt/10 - 1,
		math.MaxInt / 10, math.MaxInt/10 + 1, math.MaxInt/2 + 1, math.MaxInt - 1, math.MaxInt,
		5534023222112865485, -3689348814741910323,
	}
}

func someHeats() []int {
	return []int{0, 1, 2, 3, 9, 10, 11, 19, 20, 99, 100, 101, 500, 501, 998, 999, 1000}
}

func someWrites() []int {
	return []int{0, 1, 2, 50, 51, 99, 100}
}

// steppedRounds are so many rounds, each with another number of writes than the one before.
func steppedRounds(size int, first int, step int) []int {
	var rounds []int
	for n := 0; n < size; n++ {
		rounds = append(rounds, (first+n*step)%(greatestWrites+1))
	}
	return rounds
}

// validRounds are rounds in bounds, as few and as many as there may be: all with the same number of writes, all but one without any, and with different numbers.
func validRounds() [][]int {
	lists := [][]int{nil, {}}
	for size := 1; size <= greatestRounds; size++ {
		for _, writes := range someWrites() {
			lists = append(lists, slices.Repeat([]int{writes}, size))
		}
		for n := 0; n < size; n++ {
			lists = append(lists, withNumber(make([]int, size), n, 1), withNumber(make([]int, size), n, greatestWrites))
		}
		for _, step := range []int{1, 7, 37, 64, 100} {
			lists = append(lists, steppedRounds(size, 0, step), steppedRounds(size, 93, step), steppedRounds(size, 3, step))
		}
	}
	return lists
}

// someSizes are numbers of rounds that there may be.
func someSizes() []int {
	return []int{1, 2, 3, 20, 39, 40}
}

// roundsWithWrongOne are rounds of which one is wrong: each of them, the others with no writes, with some, or with the most.
func roundsWithWrongOne() [][]int {
	var lists [][]int
	for _, size := range someSizes() {
		for n := 0; n < size; n++ {
			for _, writes := range wrongWrites() {
				lists = append(lists, withNumber(make([]int, size), n, writes))
				lists = append(lists, withNumber(slices.Repeat([]int{greatestWrites}, size), n, writes))
				lists = append(lists, withNumber(steppedRounds(size, 5, 37), n, writes))
			}
		}
	}
	return lists
}

// roundsWithWrongOnes are rounds of which several are wrong, some of them such that they would be right together.
func roundsWithWrongOnes() [][]int {
	lists := [][]int{
		{-1, 1}, {1, -1}, {-1, 101}, {101, -1}, {-50, 50, 50}, {50, -100, 50, 100}, {101, 0, -1}, {0, 0, -1, -1},
		{math.MinInt, math.MaxInt}, {math.MaxInt, math.MinInt, 1}, {math.MaxInt, math.MaxInt, 2},
	}
	for _, size := range someSizes() {
		for _, writes := range wrongWrites() {
			lists = append(lists, slices.Repeat([]int{writes}, size))
		}
	}
	return lists
}

// tooManyRounds are more rounds than a file can have, all of them in bounds, or one of them not.
func tooManyRounds() [][]int {
	var lists [][]int
	for _, size := range []int{41, 42, 43, 64, 80, 81, 100, 101, 256, 1000, 100000} {
		for _, writes := range someWrites() {
			lists = append(lists, slices.Repeat([]int{writes}, size))
		}
		lists = append(lists, steppedRounds(size, 5, 37))
		for _, n := range []int{0, 1, 39, 40, size - 1} {
			lists = append(lists, withNumber(make([]int, size), n, -1), withNumber(make([]int, size), n, greatestWrites+1))
		}
	}
	return lists
}

// wrongRounds are lists after which there is no heat.
func wrongRounds() [][]int {
	return slices.Concat(roundsWithWrongOne(), roundsWithWrongOnes(), tooManyRounds())
}

// edgeWrites are numbers of writes at and beside their limits.
func edgeWrites() []int {
	return []int{math.MinInt, -1, 0, 1, 50, 99, 100, 101, math.MaxInt}
}

func expectStep(t *testing.T, heat int, writes int, after int) {
	t.Helper()
	if got := impl.HeatStep(heat, writes); got != after {
		t.Errorf("HeatStep(%d, %d) = %d, not %d", heat, writes, got, after)
	}
}

func expectKind(t *testing.T, heat int, kind int) {
	t.Helper()
	if got := impl.HeatKind(heat); got != kind {
		t.Errorf("HeatKind(%d) = %d, not %d", heat, got, kind)
	}
}

func expectHeat(t *testing.T, rounds []int, heat int) {
	t.Helper()
	if got := impl.HeatRun(rounds); got != heat {
		t.Errorf("HeatRun(%v) = %d, not %d", rounds, got, heat)
	}
}

func expectCooling(t *testing.T, heat int, rounds int) {
	t.Helper()
	if got := impl.CoolsIn(heat); got != rounds {
		t.Errorf("CoolsIn(%d) = %d, not %d", heat, got, rounds)
	}
}

func TestLimitsOfHeat(t *testing.T) {
	if impl.MaxHeat != greatestHeat || impl.HotFrom != 100 || impl.WarmFrom != 10 {
		t.Fatal(impl.MaxHeat, impl.HotFrom, impl.WarmFrom)
	}
}

// P72: heat stays in bounds.

func TestP72StepsOfSomeHeats(t *testing.T) {
	cases := []struct{ heat, writes, after int }{
		{0, 0, 0}, {0, 1, 10}, {0, 10, 100}, {0, 50, 500}, {0, 99, 990}, {0, 100, 1000},
		{1, 0, 0}, {1, 1, 10}, {1, 50, 500}, {1, 99, 990}, {1, 100, 1000},
		{2, 0, 1}, {2, 1, 11}, {2, 50, 501}, {2, 99, 991}, {2, 100, 1000},
		{3, 0, 1}, {20, 0, 10}, {21, 0, 10}, {90, 3, 75}, {91, 3, 75}, {100, 0, 50}, {101, 0, 50},
		{999, 0, 499}, {999, 1, 509}, {999, 50, 999}, {999, 99, 1000}, {999, 100, 1000},
		{1000, 0, 500}, {1000, 1, 510}, {1000, 50, 1000}, {1000, 99, 1000}, {1000, 100, 1000},
	}
	for _, c := range cases {
		expectStep(t, c.heat, c.writes, c.after)
	}
}

func TestP72NoHeatIsGreaterThanTheGreatest(t *testing.T) {
	cases := []struct{ heat, writes, after int }{
		// The sum is one less than MaxHeat, MaxHeat, or greater.
		{998, 50, 999}, {999, 50, 999}, {1000, 50, 1000}, {998, 51, 1000}, {999, 51, 1000}, {1000, 51, 1000},
		{18, 99, 999}, {19, 99, 999}, {20, 99, 1000}, {21, 99, 1000}, {22, 99, 1000}, {40, 99, 1000},
		{798, 60, 999}, {799, 60, 999}, {800, 60, 1000}, {801, 60, 1000}, {802, 60, 1000},
		{0, 100, 1000}, {1, 100, 1000}, {2, 100, 1000}, {500, 100, 1000}, {1000, 100, 1000},
	}
	for _, c := range cases {
		expectStep(t, c.heat, c.writes, c.after)
	}
}

// Without writes an even heat and the odd one after it have the same half.
func TestP72HalvesAreRoundedDown(t *testing.T) {
	for half := 0; half <= 500; half++ {
		expectStep(t, 2*half, 0, half)
		if half < 500 {
			expectStep(t, 2*half+1, 0, half)
		}
	}
}

func TestP72EveryWriteCountsTen(t *testing.T) {
	for writes := 0; writes <= greatestWrites; writes++ {
		expectStep(t, 0, writes, 10*writes)
		expectStep(t, 1, writes, 10*writes)
		expectStep(t, 7, writes, min(3+10*writes, 1000))
	}
}

func TestP72EveryHeatAndEveryNumberOfWrites(t *testing.T) {
	for heat := 0; heat <= greatestHeat; heat++ {
		for writes := 0; writes <= greatestWrites; writes++ {
			expectStep(t, heat, writes, heatByAdding(heat, writes))
		}
	}
}

func TestP72HeatStaysInBounds(t *testing.T) {
	for heat := 0; heat <= greatestHeat; heat++ {
		for writes := 0; writes <= greatestWrites; writes++ {
			if after := impl.HeatStep(heat, writes); after < 0 || after > impl.MaxHeat {
				t.Errorf("HeatStep(%d, %d) = %d", heat, writes, after)
			}
		}
	}
}

func TestP72WithAWriteMoreHeatIsNotLess(t *testing.T) {
	for heat := 0; heat <= greatestHeat; heat++ {
		for writes := 0; writes < greatestWrites; writes++ {
			after, more := impl.HeatStep(heat, writes), impl.HeatStep(heat, writes+1)
			if more < after {
				t.Errorf("HeatStep(%d, %d) = %d, but %d with a write more", heat, writes, after, more)
			}
		}
	}
}

func TestP72OtherHeatsHaveNoStep(t *testing.T) {
	for _, heat := range wrongHeats() {
		for writes := 0; writes <= greatestWrites; writes++ {
			expectStep(t, heat, writes, -1)
		}
	}
	for heat := -3000; heat <= 4000; heat++ {
		for _, writes := range someWrites() {
			if heat < 0 || heat > greatestHeat {
				expectStep(t, heat, writes, -1)
			}
		}
	}
}

func TestP72OtherNumbersOfWritesHaveNoStep(t *testing.T) {
	for _, writes := range wrongWrites() {
		for heat := 0; heat <= greatestHeat; heat++ {
			expectStep(t, heat, writes, -1)
		}
	}
	for writes := -300; writes <= 400; writes++ {
		for _, heat := range someHeats() {
			if writes < 0 || writes > greatestWrites {
				expectStep(t, heat, writes, -1)
			}
		}
	}
}

func TestP72BothOutOfBoundsHaveNoStep(t *testing.T) {
	for _, heat := range wrongHeats() {
		for _, writes := range wrongWrites() {
			expectStep(t, heat, writes, -1)
		}
	}
}

// P73: hotter files are not colder.

func TestP73KindsOfSomeHeats(t *testing.T) {
	cases := []struct{ heat, kind int }{
		{0, cold}, {1, cold}, {5, cold}, {9, cold}, {10, warm}, {11, warm}, {50, warm},
		{98, warm}, {99, warm}, {100, hot}, {101, hot}, {500, hot}, {999, hot}, {1000, hot},
	}
	for _, c := range cases {
		expectKind(t, c.heat, c.kind)
	}
}

func TestP73KindsOfAllHeats(t *testing.T) {
	for heat := 0; heat <= greatestHeat; heat++ {
		expectKind(t, heat, kindByDigits(heat))
	}
}

func TestP73OneMoreNeverLeadsToAColderKind(t *testing.T) {
	for heat := 0; heat < greatestHeat; heat++ {
		if kind, next := impl.HeatKind(heat), impl.HeatKind(heat+1); next > kind {
			t.Errorf("HeatKind(%d) = %d, but HeatKind(%d) = %d", heat, kind, heat+1, next)
		}
	}
}

// The kind of a heat is one of those that heads have.
func TestP73EveryHeatHasAHead(t *testing.T) {
	d := deviceOf([]int{1, 2, 3})
	for heat := 0; heat <= greatestHeat; heat++ {
		kind := kindByDigits(heat)
		expectHead(t, d, changedHead(noHeads(), kind, 2), impl.HeatKind(heat), 2)
		expectHead(t, d, headsFor(kind, 1, 0, 2), impl.HeatKind(heat), 1)
	}
}

func TestP73OtherHeatsHaveNoKind(t *testing.T) {
	for _, heat := range wrongHeats() {
		expectKind(t, heat, -1)
	}
	for heat := -3000; heat < 0; heat++ {
		expectKind(t, heat, -1)
	}
	for heat := greatestHeat + 1; heat <= 4000; heat++ {
		expectKind(t, heat, -1)
	}
}

// P74: rounds follow each other.

func TestP74WithoutRoundsThereIsNoHeat(t *testing.T) {
	expectHeat(t, nil, 0)
	expectHeat(t, []int{}, 0)
	expectHeat(t, make([]int, 0, 7), 0)
}

func TestP74OneRound(t *testing.T) {
	for writes := -300; writes <= 400; writes++ {
		if writes < 0 || writes > greatestWrites {
			expectHeat(t, []int{writes}, -1)
		} else {
			expectHeat(t, []int{writes}, 10*writes)
		}
	}
}

func TestP74SomeRounds(t *testing.T) {
	expectHeat(t, []int{3, 0, 1}, 17)
	expectHeat(t, []int{1, 0, 3}, 32)
	expectHeat(t, []int{0, 1, 3}, 35)
	expectHeat(t, []int{3, 1, 0}, 12)
	expectHeat(t, []int{1, 3, 0}, 17)
	expectHeat(t, []int{0, 3, 1}, 25)
	expectHeat(t, []int{1, 1, 1, 1, 1}, 19)
	// Of 1, 3 and 7 half is rounded down: each round by itself.
	expectHeat(t, []int{1, 1, 0, 0, 0}, 1)
	expectHeat(t, []int{100, 100}, 1000)
	expectHeat(t, []int{100, 50}, 1000)
	expectHeat(t, []int{100, 49}, 990)
	// What is above MaxHeat is lost: it does not count in the next round.
	expectHeat(t, []int{100, 100, 0}, 500)
	expectHeat(t, []int{100, 100, 0, 0}, 250)
}

// With the same number of writes in every round a file comes to a heat that stays.
func TestP74TheSameNumberOfWritesInEveryRound(t *testing.T) {
	cases := []struct{ writes, heat int }{{0, 0}, {1, 19}, {2, 39}, {5, 99}, {6, 119}, {49, 979}, {50, 999}, {51, 1000}, {100, 1000}}
	for _, c := range cases {
		for size := 15; size <= greatestRounds; size++ {
			expectHeat(t, slices.Repeat([]int{c.writes}, size), c.heat)
		}
	}
}

func TestP74AtMostFortyRounds(t *testing.T) {
	for size := 0; size <= 120; size++ {
		for _, writes := range someWrites() {
			rounds := slices.Repeat([]int{writes}, size)
			if size > 40 {
				expectHeat(t, rounds, -1)
			} else {
				expectHeat(t, rounds, heatAfterAll(rounds))
			}
		}
	}
	for _, rounds := range tooManyRounds() {
		expectHeat(t, rounds, -1)
	}
}

// A file that is never written stays as it is: cold.
func TestP74FilesThatAreNeverWritten(t *testing.T) {
	for size := 0; size <= greatestRounds; size++ {
		rounds := make([]int, size)
		expectHeat(t, rounds, 0)
		expectKind(t, impl.HeatRun(rounds), cold)
		expectCooling(t, impl.HeatRun(rounds), 0)
	}
	expectHeat(t, make([]int, 41), -1)
}

// Before the first write nothing changes: a file may wait as long as it likes.
func TestP74RoundsWithoutWritesBeforeOthers(t *testing.T) {
	for before := 0; before <= greatestRounds-3; before++ {
		for writes := 0; writes <= greatestWrites; writes++ {
			expectHeat(t, append(make([]int, before), writes), 10*writes)
		}
		expectHeat(t, append(make([]int, before), 3, 0, 1), 17)
		expectHeat(t, append(make([]int, before), 100, 100, 1), 510)
	}
}

func TestP74RoundsWithoutWritesBetweenOthers(t *testing.T) {
	for between, heat := range []int{510, 260, 135, 72, 41, 25, 17, 13, 11, 10, 10, 10, 10} {
		rounds := slices.Concat([]int{100}, make([]int, between), []int{1})
		expectHeat(t, rounds, heat)
		expectHeat(t, append([]int{0, 0}, rounds...), heat)
		expectHeat(t, append(rounds, 0), heat/2)
	}
}

func TestP74RoundsWithoutWritesAfterOthers(t *testing.T) {
	for after, heat := range []int{1000, 500, 250, 125, 62, 31, 15, 7, 3, 1, 0, 0, 0} {
		expectHeat(t, append([]int{100}, make([]int, after)...), heat)
		expectHeat(t, append([]int{7, 0, 100, 100}, make([]int, after)...), heat)
	}
	for after := 13; after < greatestRounds; after++ {
		expectHeat(t, append([]int{100}, make([]int, after)...), 0)
	}
}

// With the most writes in every round the greatest heat is reached, and not passed.
func TestP74TheMostWritesInEveryRound(t *testing.T) {
	for size := 1; size <= greatestRounds; size++ {
		expectHeat(t, slices.Repeat([]int{greatestWrites}, size), greatestHeat)
	}
	for size := 1; size < greatestRounds; size++ {
		expectHeat(t, append(slices.Repeat([]int{greatestWrites}, size), 0), 500)
		expectHeat(t, append([]int{0}, slices.Repeat([]int{greatestWrites}, size)...), greatestHeat)
	}
}

func TestP74HeatIsThatOfAStepMore(t *testing.T) {
	for _, rounds := range validRounds() {
		if len(rounds) == 0 {
			continue
		}
		last := len(rounds) - 1
		expectHeat(t, rounds, impl.HeatStep(impl.HeatRun(rounds[:last]), rounds[last]))
		expectHeat(t, rounds, heatAfterAll(rounds))
	}
}

func TestP74AllShortListsOfRounds(t *testing.T) {
	for size := 0; size <= 5; size++ {
		for _, rounds := range listsOf(edgeWrites(), size) {
			expectHeat(t, rounds, heatAfterAll(rounds))
		}
	}
}

func TestP74AllPairsOfRounds(t *testing.T) {
	for _, rounds := range listsOf(numbersFromTo(-2, greatestWrites+2), 2) {
		expectHeat(t, rounds, heatAfterAll(rounds))
	}
}

func TestP74AfterWrongRoundsThereIsNoHeat(t *testing.T) {
	for _, rounds := range wrongRounds() {
		expectHeat(t, rounds, -1)
	}
}

// The rounds before a wrong one would do, and so would those after it.
func TestP74TheRoundsBesideAWrongOneWouldDo(t *testing.T) {
	for _, rounds := range [][]int{{0}, {3, 0, 1}, {100, 100, 100}, steppedRounds(39, 5, 37)} {
		for _, writes := range wrongWrites() {
			expectHeat(t, rounds, heatAfterAll(rounds))
			for n := 0; n <= len(rounds); n++ {
				expectHeat(t, slices.Insert(slices.Clone(rounds), n, writes), -1)
			}
		}
	}
}

func TestP74RoundsGivenAreNotWrittenTo(t *testing.T) {
	for _, rounds := range append(validRounds(), wrongRounds()...) {
		room := append(slices.Clone(rounds), 71, 72, 73)
		before := slices.Clone(room)
		first := impl.HeatRun(room[:len(rounds)])
		second := impl.HeatRun(room[:len(rounds)])
		if !slices.Equal(room, before) {
			t.Fatalf("HeatRun(%v) writes into it", rounds)
		}
		if first != second {
			t.Fatalf("HeatRun(%v) is %d, and %d again", rounds, first, second)
		}
	}
}

// P75: files cool.

func TestP75CoolingOfSomeHeats(t *testing.T) {
	cases := []struct{ heat, rounds int }{
		{0, 0}, {1, 0}, {8, 0}, {9, 0}, {10, 1}, {11, 1}, {18, 1}, {19, 1}, {20, 2}, {21, 2}, {39, 2}, {40, 3},
		{79, 3}, {80, 4}, {99, 4}, {100, 4}, {101, 4}, {159, 4}, {160, 5}, {319, 5}, {320, 6}, {639, 6}, {640, 7}, {999, 7}, {1000, 7},
	}
	for _, c := range cases {
		expectCooling(t, c.heat, c.rounds)
	}
}

func TestP75CoolingOfAllHeats(t *testing.T) {
	for heat := 0; heat <= greatestHeat; heat++ {
		expectCooling(t, heat, coolingByDoubling(heat))
	}
}

func TestP75ColdHeatsAreCold(t *testing.T) {
	for heat := 0; heat <= greatestHeat; heat++ {
		if isCold := impl.HeatKind(heat) == cold; isCold != (impl.CoolsIn(heat) == 0) {
			t.Errorf("CoolsIn(%d) = %d, but HeatKind(%d) = %d", heat, impl.CoolsIn(heat), heat, impl.HeatKind(heat))
		}
	}
}

func TestP75FilesCool(t *testing.T) {
	for heat := 0; heat <= greatestHeat; heat++ {
		rounds := impl.CoolsIn(heat)
		if rounds < 0 {
			t.Fatalf("CoolsIn(%d) = %d", heat, rounds)
		}
		// So many rounds without writes, one by one.
		left := heat
		for n := 0; n < rounds; n++ {
			if impl.HeatKind(left) == cold {
				t.Errorf("CoolsIn(%d) = %d, but it is cold after %d rounds", heat, rounds, n)
			}
			left = impl.HeatStep(left, 0)
		}
		expectKind(t, left, cold)
	}
}

// What has cooled stays cold, however many rounds without writes follow.
func TestP75ColdFilesStayCold(t *testing.T) {
	for writes := 0; writes <= greatestWrites; writes++ {
		cooling := impl.CoolsIn(impl.HeatRun([]int{writes}))
		for without := 0; without < greatestRounds; without++ {
			kind := impl.HeatKind(impl.HeatRun(append([]int{writes}, make([]int, without)...)))
			if (kind == cold) != (without >= cooling) {
				t.Errorf("%d writes cool in %d rounds, but are of the kind %d after %d", writes, cooling, kind, without)
			}
		}
	}
}

func TestP75OtherHeatsDoNotCool(t *testing.T) {
	for _, heat := range wrongHeats() {
		expectCooling(t, heat, -1)
	}
	for heat := -3000; heat < 0; heat++ {
		expectCooling(t, heat, -1)
	}
	for heat := greatestHeat + 1; heat <= 4000; heat++ {
		expectCooling(t, heat, -1)
	}
}
