package tests

import (
	"math"
	"testing"

	"loop.example/flashfiles/impl"
)

const (
	greatestData = 255
	lastPlace    = 12
)

func invalidData() []int {
	return []int{-1, -2, -greatestData, greatestData + 1, greatestData + 2, 512, impl.MaxWord, impl.MaxSet, math.MinInt, math.MaxInt}
}

func invalidWords() []int {
	return []int{-1, -2, -impl.MaxWord, impl.MaxWord + 1, impl.MaxWord + 2, 2*impl.MaxWord + 1, impl.MaxSet, impl.MaxSet + 1, math.MinInt, math.MaxInt}
}

func invalidPlaces() []int {
	return []int{0, -1, -2, -12, lastPlace + 1, lastPlace + 2, 15, 16, 17, 63, 64, 65, math.MinInt, math.MaxInt}
}

// someWords are ordinary words, the empty one and the full one.
func someWords() []int {
	return []int{0, 1, 2, 5, 6, 7, 25, 30, 2047, 2048, 4094, impl.MaxWord}
}

// bitAt tells without impl whether the bit of a word at a place is 1.
func bitAt(word int, place int) bool {
	return hasByHalving(word, place-1)
}

// otherBitAt returns without impl a word with the other bit at a place.
func otherBitAt(word int, place int) int {
	value := 1
	for p := 1; p < place; p++ {
		value *= 2
	}
	if bitAt(word, place) {
		return word - value
	}
	return word + value
}

// sumOfPlaces returns without impl the places of all bits that are 1, taken together bit by bit.
func sumOfPlaces(word int) int {
	sum := 0
	for power := 1; power <= 8; power *= 2 {
		odd := false
		for place := 1; place <= lastPlace; place++ {
			if bitAt(word, place) && place/power%2 == 1 {
				odd = !odd
			}
		}
		if odd {
			sum += power
		}
	}
	return sum
}

// dataIn returns without impl the data that a word has at its places, right or wrong.
func dataIn(word int) int {
	data := 0
	value := 1
	for _, place := range []int{3, 5, 6, 7, 9, 10, 11, 12} {
		if bitAt(word, place) {
			data += value
		}
		value *= 2
	}
	return data
}

// wordsByData returns without impl, for all data, the words with that data whose places together are 0.
func wordsByData() [greatestData + 1][]int {
	var words [greatestData + 1][]int
	for word := 0; word <= impl.MaxWord; word++ {
		if sumOfPlaces(word) == 0 {
			words[dataIn(word)] = append(words[dataIn(word)], word)
		}
	}
	return words
}

func expectFix(t *testing.T, word int, data int, place int) {
	t.Helper()
	if d, p := impl.FixWord(word); d != data || p != place {
		t.Errorf("FixWord(%d) = %d, %d, not %d, %d", word, d, p, data, place)
	}
}

func TestMaxWordIsTheFullWord(t *testing.T) {
	if impl.MaxWord != 4095 {
		t.Fatalf("MaxWord is %d", impl.MaxWord)
	}
}

func TestP1WordsOfSomeData(t *testing.T) {
	// Of a bit of data at the place p: 2 to the power of p-1, and the same for the powers of two that make p.
	cases := []struct{ data, word int }{
		{0, 0}, {1, 4 + 2 + 1}, {2, 16 + 8 + 1}, {4, 32 + 8 + 2}, {8, 64 + 8 + 2 + 1},
		{16, 256 + 128 + 1}, {32, 512 + 128 + 2}, {64, 1024 + 128 + 2 + 1}, {128, 2048 + 128 + 8},
		{3, 4 + 16 + 8 + 2}, {5, 4 + 32 + 8 + 1}, {greatestData, 3959},
	}
	for _, c := range cases {
		if got := impl.CodeWord(c.data); got != c.word {
			t.Errorf("CodeWord(%d) = %d, not %d", c.data, got, c.word)
		}
	}
}

func TestP1WordsHaveTheirDataAndNoSumOfPlaces(t *testing.T) {
	for data, words := range wordsByData() {
		if len(words) != 1 {
			t.Fatalf("%d has the words %v", data, words)
		}
		if got := impl.CodeWord(data); got != words[0] {
			t.Errorf("CodeWord(%d) = %d, not %d", data, got, words[0])
		}
	}
}

func TestP1WordsRepairAWrongBit(t *testing.T) {
	for data := 0; data <= greatestData; data++ {
		word := impl.CodeWord(data)
		expectFix(t, word, data, 0)
		for place := 1; place <= lastPlace; place++ {
			expectFix(t, impl.FlipBit(word, place), data, place)
		}
	}
}

func TestP1WordsOfNextDataAreApart(t *testing.T) {
	for data := 0; data <= greatestData; data++ {
		next := (data + 1) % (greatestData + 1)
		if apart := impl.WordsApart(impl.CodeWord(data), impl.CodeWord(next)); apart < 3 {
			t.Errorf("the words of %d and %d are %d places apart", data, next, apart)
		}
	}
}

func TestP1OtherDataHasNoWord(t *testing.T) {
	for _, data := range invalidData() {
		if got := impl.CodeWord(data); got != -1 {
			t.Errorf("CodeWord(%d) = %d, not -1", data, got)
		}
	}
}

func TestP31FlipsOfSomeWords(t *testing.T) {
	cases := []struct{ word, place, want int }{
		{0, 1, 1}, {0, 12, 2048}, {5, 1, 4}, {5, 2, 7}, {5, 3, 1}, {5, 4, 13},
		{2048, 12, 0}, {impl.MaxWord, 1, 4094}, {impl.MaxWord, 12, 2047},
	}
	for _, c := range cases {
		if got := impl.FlipBit(c.word, c.place); got != c.want {
			t.Errorf("FlipBit(%d, %d) = %d, not %d", c.word, c.place, got, c.want)
		}
	}
}

func TestP31FlippingTwiceChangesNothing(t *testing.T) {
	for word := 0; word <= impl.MaxWord; word++ {
		for place := 1; place <= lastPlace; place++ {
			once := impl.FlipBit(word, place)
			if once != otherBitAt(word, place) {
				t.Fatalf("FlipBit(%d, %d) = %d, not %d", word, place, once, otherBitAt(word, place))
			}
			if twice := impl.FlipBit(once, place); twice != word {
				t.Fatalf("FlipBit(%d, %d) = %d, not %d again", once, place, twice, word)
			}
			if apart := impl.WordsApart(word, once); apart != 1 {
				t.Fatalf("WordsApart(%d, %d) = %d, not 1", word, once, apart)
			}
		}
	}
}

func TestP31OtherArgumentsAreNotFlipped(t *testing.T) {
	for _, word := range invalidWords() {
		for place := 0; place <= lastPlace+1; place++ {
			expectNoFlip(t, word, place)
		}
	}
	for _, place := range invalidPlaces() {
		for _, word := range someWords() {
			expectNoFlip(t, word, place)
		}
	}
}

func expectNoFlip(t *testing.T, word int, place int) {
	t.Helper()
	if got := impl.FlipBit(word, place); got != -1 {
		t.Errorf("FlipBit(%d, %d) = %d, not -1", word, place, got)
	}
}

func TestP32FixesOfSomeWords(t *testing.T) {
	cases := []struct{ word, data, place int }{
		{0, 0, 0}, {7, 1, 0}, {6, 1, 1}, {5, 1, 2}, {3, 1, 3}, {15, 1, 4},
		{1, 0, 1}, {2048, 0, 12}, {2055, 1, 12}, {3959, 255, 0}, {impl.MaxWord, 127, 12},
	}
	for _, c := range cases {
		expectFix(t, c.word, c.data, c.place)
	}
}

func TestP32FixedWordsAreWords(t *testing.T) {
	for word := 0; word <= impl.MaxWord; word++ {
		data, place := impl.FixWord(word)
		if sum := sumOfPlaces(word); sum > lastPlace {
			expectFix(t, word, -1, -1)
			continue
		} else if place != sum || data < 0 || data > greatestData {
			t.Fatalf("FixWord(%d) = %d, %d, but its places together are %d", word, data, place, sum)
		}
		fixed := word
		if place > 0 {
			fixed = impl.FlipBit(word, place)
		}
		if got := impl.CodeWord(data); got != fixed {
			t.Fatalf("FixWord(%d) = %d, %d, but CodeWord(%d) = %d, not %d", word, data, place, data, got, fixed)
		}
		if dataIn(fixed) != data {
			t.Fatalf("FixWord(%d) = %d, %d, but %d has %d", word, data, place, fixed, dataIn(fixed))
		}
	}
}

func TestP32SomeWordsWithTwoWrongBits(t *testing.T) {
	cases := []struct{ word, data, place int }{
		// The places 1 and 12, 2 and 12, and 3 and 12 are together none of 1..12.
		{2049, -1, -1}, {2050, -1, -1}, {2052, -1, -1},
		// The places 1 and 2 are together 3, the place of the lowest bit of data.
		{3, 1, 3},
		// The places 4 and 8 are together 12, the place of the highest bit of data.
		{136, 128, 12},
		// Of the word 7 the places 1 and 2 are wrong, and 3 is taken for the wrong one.
		{4, 0, 3},
		// Of the word 7 the places 1 and 12 are wrong.
		{2054, -1, -1},
	}
	for _, c := range cases {
		expectFix(t, c.word, c.data, c.place)
	}
}

func TestP32WordsWithTwoWrongBits(t *testing.T) {
	for data := 0; data <= greatestData; data++ {
		word := impl.CodeWord(data)
		for first := 1; first <= lastPlace; first++ {
			for second := first + 1; second <= lastPlace; second++ {
				expectTwoWrong(t, word, first, second)
			}
		}
	}
}

// expectTwoWrong expects that with two wrong bits the place that both make together is taken for the wrong one, if it is one.
func expectTwoWrong(t *testing.T, word int, first int, second int) {
	t.Helper()
	wrong := otherBitAt(otherBitAt(word, first), second)
	third := sumOfPlaces(wrong)
	if third != sumOfPlaces(otherBitAt(otherBitAt(0, first), second)) || third == 0 {
		t.Fatalf("the places %d and %d of %d are together %d", first, second, word, third)
	}
	if third > lastPlace {
		expectFix(t, wrong, -1, -1)
		return
	}
	expectFix(t, wrong, dataIn(otherBitAt(wrong, third)), third)
}

func TestP32OtherWordsAreNotFixed(t *testing.T) {
	for _, word := range invalidWords() {
		expectFix(t, word, -1, -1)
	}
}

func TestP33DistancesOfSomeWords(t *testing.T) {
	cases := []struct{ a, b, apart int }{
		{0, 0, 0}, {5, 6, 2}, {0, 7, 3}, {0, 1, 1}, {0, 2048, 1}, {2047, 2048, 12}, {30, 45, 4}, {impl.MaxWord, impl.MaxWord, 0}, {0, impl.MaxWord, 12},
	}
	for _, c := range cases {
		expectApart(t, c.a, c.b, c.apart)
		expectApart(t, c.b, c.a, c.apart)
	}
}

func expectApart(t *testing.T, a int, b int, apart int) {
	t.Helper()
	if got := impl.WordsApart(a, b); got != apart {
		t.Errorf("WordsApart(%d, %d) = %d, not %d", a, b, got, apart)
	}
}

func TestP33DistancesAreTheSameInBothDirections(t *testing.T) {
	for a := 0; a <= impl.MaxWord; a++ {
		expectApart(t, a, a, 0)
		for b := a + 1; b <= impl.MaxWord; b++ {
			apart := impl.WordsApart(a, b)
			if apart < 1 || apart > lastPlace || impl.WordsApart(b, a) != apart {
				t.Fatalf("WordsApart(%d, %d) = %d, but WordsApart(%d, %d) = %d", a, b, apart, b, a, impl.WordsApart(b, a))
			}
		}
	}
}

func TestP33DistancesAreOfPlacesWithOtherBits(t *testing.T) {
	for _, a := range someWords() {
		for b := 0; b <= impl.MaxWord; b++ {
			apart := 0
			for place := 1; place <= lastPlace; place++ {
				if bitAt(a, place) != bitAt(b, place) {
					apart++
				}
			}
			expectApart(t, a, b, apart)
		}
	}
}

func TestP33OtherWordsHaveNoDistance(t *testing.T) {
	for _, wrong := range invalidWords() {
		for _, word := range someWords() {
			expectApart(t, wrong, word, -1)
			expectApart(t, word, wrong, -1)
		}
		for _, other := range invalidWords() {
			expectApart(t, wrong, other, -1)
		}
	}
}
