package tests

import (
	"math"
	"slices"
	"strings"
	"testing"

	"loop.example/flashfiles/impl"
)

const (
	longestText       = 8
	bucketsOfNames    = 3
	mostNamesOfBucket = 3
	smallLetters      = "abcdefghijklmnopqrstuvwxyz"
)

// isText reckons whether a text is valid: nothing of it is left without its letters.
func isText(text string) bool {
	return len(text) >= 1 && len(text) <= longestText && strings.Trim(text, smallLetters) == ""
}

// bucketBySums reckons the bucket of a valid text: nothing is taken modulo before the end, where the sum is still an int.
func bucketBySums(text string) int {
	sum := 7
	for _, b := range []byte(text) {
		sum = 31*sum + int(b)
	}
	return sum % 1009 % bucketsOfNames
}

// keyOf returns a text with its bucket before it: keys are in order exactly if names are.
func keyOf(text string) string {
	return string(rune('0'+bucketBySums(text))) + text
}

// isFileOfName reckons whether a name can be that of a file.
func isFileOfName(file int) bool {
	return file == min(max(file, 0), filesOfTable-1)
}

// areNames reckons whether names are valid.
func areNames(list []impl.Name) bool {
	var keys []string
	many := make([]int, bucketsOfNames)
	for _, name := range list {
		if !isText(name.Text) || !isFileOfName(name.File) {
			return false
		}
		keys = append(keys, keyOf(name.Text))
		many[bucketBySums(name.Text)]++
	}
	inOrder := slices.Compact(slices.Sorted(slices.Values(keys)))
	return slices.Equal(keys, inOrder) && slices.Max(many) <= mostNamesOfBucket
}

// withNameAt returns names with a further one before the one at a place, or behind all.
func withNameAt(list []impl.Name, at int, n impl.Name) []impl.Name {
	return slices.Insert(slices.Clone(list), at, n)
}

// withoutNameAt returns names without the one at a place.
func withoutNameAt(list []impl.Name, at int) []impl.Name {
	return slices.Delete(slices.Clone(list), at, at+1)
}

// withOtherName returns names with another one at a place.
func withOtherName(list []impl.Name, at int, n impl.Name) []impl.Name {
	list = slices.Clone(list)
	list[at] = n
	return list
}

// withNamesExchanged returns names with those at two places exchanged.
func withNamesExchanged(list []impl.Name, at int, other int) []impl.Name {
	return withOtherName(withOtherName(list, at, list[other]), other, list[at])
}

// putByTrying puts a name wherever names are valid then; none are if they are not valid before.
func putByTrying(list []impl.Name, n impl.Name) ([]impl.Name, bool) {
	if !areNames(list) {
		return nil, false
	}
	for at := 0; at <= len(list); at++ {
		if after := withNameAt(list, at, n); areNames(after) {
			return after, true
		}
	}
	return list, false
}

// textAt returns the place of the first name with a text, -1 if there is none.
func textAt(list []impl.Name, text string) int {
	return slices.IndexFunc(list, func(n impl.Name) bool { return n.Text == text })
}

// poolTexts are four texts of each bucket, in the order of names: some are the beginning of the next one, some as long as can be, and the greatest one of a bucket is greater than the least one of the next.
func poolTexts() []string {
	return []string{
		"b", "bc", "hgfedcba", "zzzzzzzz",
		"abcdefgh", "c", "cc", "life",
		"a", "aaaaaaaa", "ac", "y",
	}
}

// poolName returns a name with a text of the pool, of the first or the last file or of one between them.
func poolName(n int) impl.Name {
	return impl.Name{Text: poolTexts()[n], File: (3*n + 5) % filesOfTable}
}

// poolNames returns the names of the pool that a set has, in order.
func poolNames(set int) []impl.Name {
	var list []impl.Name
	for n := range poolTexts() {
		if hasByHalving(set, n) {
			list = append(list, poolName(n))
		}
	}
	return list
}

// hasFullBucketAndMore reports whether a set has all four names of a bucket of the pool.
func hasFullBucketAndMore(set int) bool {
	return set&15 == 15 || set>>4&15 == 15 || set>>8&15 == 15
}

// poolLists are the names of all sets of the pool, with four names in no bucket, or in one at least.
func poolLists(overfull bool) [][]impl.Name {
	var lists [][]impl.Name
	for set := 0; set < 1<<len(poolTexts()); set++ {
		if hasFullBucketAndMore(set) == overfull {
			lists = append(lists, poolNames(set))
		}
	}
	return lists
}

func validNames() [][]impl.Name {
	return append(poolLists(false), []impl.Name{})
}

// someNames are valid names with none, one, two and three in each bucket, and with all buckets full in four ways.
func someNames() [][]impl.Name {
	lists := [][]impl.Name{nil, {}}
	for _, set := range []int{0x001, 0x008, 0x020, 0x100, 0x800, 0x003, 0x018, 0x180, 0x801, 0x111, 0x070, 0x007, 0x700, 0x421, 0x252, 0x077, 0x770, 0x707, 0x777, 0x7BD, 0xDDB, 0xEEE} {
		lists = append(lists, poolNames(set))
	}
	return lists
}

// wrongBytes are bytes that are no small letters: right before and behind them, capitals, a digit, the least one, and those of 128 or more.
func wrongBytes() []byte {
	return []byte{'a' - 1, 'z' + 1, 'A', 'Z', '0', '9', ' ', '/', 0, 127, 128, 'a' + 128, 'z' + 128, 255}
}

// textsWithWrongByte are texts of one letter and of every longer size with a wrong byte at the first, a middle and the last place.
func textsWithWrongByte() []string {
	var texts []string
	for size := 1; size <= longestText; size++ {
		for _, at := range []int{0, size / 2, size - 1} {
			for _, wrong := range wrongBytes() {
				text := []byte(strings.Repeat("m", size))
				text[at] = wrong
				texts = append(texts, string(text))
			}
		}
	}
	return texts
}

// wrongTexts are texts that are not valid.
func wrongTexts() []string {
	texts := []string{"", "aaaaaaaaa", "abcdefghi", "zzzzzzzzz", strings.Repeat("a", 16), strings.Repeat("z", 1000), "é", "aé", "ａ", "a\n", "\na", "a a", "123456789"}
	return append(texts, textsWithWrongByte()...)
}

// goodTexts are valid texts of every size.
func goodTexts() []string {
	texts := slices.Concat(poolTexts(), []string{"log", "gol", "note", "tone", "eton", "az", "za", "zebra", "names"})
	for size := 1; size <= longestText; size++ {
		texts = append(texts, strings.Repeat("a", size), strings.Repeat("z", size), smallLetters[:size], smallLetters[26-size:], smallLetters[9:9+size])
	}
	return texts
}

// wrongNames are names that can stand in no valid names: for their text, their file, or both.
func wrongNames() []impl.Name {
	var names []impl.Name
	for _, text := range wrongTexts() {
		names = append(names, impl.Name{Text: text, File: 3})
	}
	for _, file := range filesOutOfBounds() {
		for _, text := range []string{"d", "e", "f", "b", "y", "", "A", "aaaaaaaaa"} {
			names = append(names, impl.Name{Text: text, File: file})
		}
	}
	return names
}

// namesOutOfOrder are some of someNames with two of them exchanged.
func namesOutOfOrder() [][]impl.Name {
	var lists [][]impl.Name
	for _, list := range someNames() {
		for other := range list {
			for at := range other {
				lists = append(lists, withNamesExchanged(list, at, other))
			}
		}
	}
	return lists
}

// namesTwice are someNames with one of them twice, with the same and with another file, at every place.
func namesTwice() [][]impl.Name {
	var lists [][]impl.Name
	for _, list := range someNames() {
		for _, name := range list {
			for at := 0; at <= len(list); at++ {
				lists = append(lists, withNameAt(list, at, name))
				lists = append(lists, withNameAt(list, at, impl.Name{Text: name.Text, File: 7 - name.File}))
			}
		}
	}
	return lists
}

// namesOfWrongFiles are someNames with a file out of bounds at every place.
func namesOfWrongFiles() [][]impl.Name {
	var lists [][]impl.Name
	for _, list := range someNames() {
		for at := range list {
			for _, file := range filesOutOfBounds() {
				lists = append(lists, withOtherName(list, at, impl.Name{Text: list[at].Text, File: file}))
			}
		}
	}
	return lists
}

// namesOfWrongTexts are someNames with a wrong text before, between and behind them.
func namesOfWrongTexts() [][]impl.Name {
	var lists [][]impl.Name
	for _, list := range someNames() {
		for at := 0; at <= len(list); at++ {
			for _, text := range wrongTexts() {
				lists = append(lists, withNameAt(list, at, impl.Name{Text: text, File: 3}))
			}
		}
	}
	return lists
}

// invalidNames are names that are not valid.
func invalidNames() [][]impl.Name {
	return slices.Concat(poolLists(true), namesOutOfOrder(), namesTwice(), namesOfWrongFiles(), namesOfWrongTexts())
}

// someInvalidNames are one of many of invalidNames, and the shortest ones.
func someInvalidNames() [][]impl.Name {
	lists := [][]impl.Name{{{}}, {{Text: "a", File: 8}}, {{Text: "a", File: -1}}, {{Text: "A"}}, {{Text: "a"}, {Text: "a"}}, {{Text: "d"}, {Text: "a"}}, {{Text: "a"}, {Text: "b"}}}
	for n, list := range invalidNames() {
		if n%97 == 0 {
			lists = append(lists, list)
		}
	}
	return lists
}

func expectTextValid(t *testing.T, text string, valid bool) {
	t.Helper()
	if got := impl.TextValid(text); got != valid {
		t.Errorf("TextValid(%q) = %t", text, got)
	}
}

func expectBucket(t *testing.T, text string, bucket int) {
	t.Helper()
	if got := impl.NameBucket(text); got != bucket {
		t.Errorf("NameBucket(%q) = %d, not %d", text, got, bucket)
	}
}

func expectNamesValid(t *testing.T, list []impl.Name, valid bool) {
	t.Helper()
	if got := impl.NamesValid(list); got != valid {
		t.Errorf("NamesValid(%#v) = %t", list, got)
	}
}

func expectFile(t *testing.T, list []impl.Name, text string, file int) {
	t.Helper()
	if got := impl.FindName(list, text); got != file {
		t.Errorf("FindName(%#v, %q) = %d, not %d", list, text, got, file)
	}
}

func expectNamePut(t *testing.T, list []impl.Name, n impl.Name, after []impl.Name, done bool) {
	t.Helper()
	if got, gotDone := impl.PutName(list, n); gotDone != done || !slices.Equal(got, after) {
		t.Errorf("PutName(%#v, %#v) = %#v, %t, not %#v, %t", list, n, got, gotDone, after, done)
	}
}

// expectNameNotPut expects what there is for a further name that valid names cannot take.
func expectNameNotPut(t *testing.T, list []impl.Name, n impl.Name) {
	t.Helper()
	expectNamePut(t, list, n, list, false)
}

func expectDrop(t *testing.T, list []impl.Name, text string, after []impl.Name, done bool) {
	t.Helper()
	if got, gotDone := impl.DropName(list, text); gotDone != done || !slices.Equal(got, after) {
		t.Errorf("DropName(%#v, %q) = %#v, %t, not %#v, %t", list, text, got, gotDone, after, done)
	}
}

// expectNotDropped expects what there is for a text that is not among valid names.
func expectNotDropped(t *testing.T, list []impl.Name, text string) {
	t.Helper()
	expectDrop(t, list, text, list, false)
}

func TestLimitsOfDirectories(t *testing.T) {
	if impl.MaxText != longestText || impl.Buckets != bucketsOfNames || impl.BucketMost != mostNamesOfBucket {
		t.Fatal(impl.MaxText, impl.Buckets, impl.BucketMost)
	}
}

// The tests that follow rely on these texts.
func TestPoolHasFourTextsOfEachBucket(t *testing.T) {
	var keys []string
	for n, text := range poolTexts() {
		expectBucket(t, text, n/4)
		keys = append(keys, keyOf(text))
	}
	if !slices.IsSorted(keys) {
		t.Error(keys)
	}
}

// P59: texts have letters.

func TestP59SomeTexts(t *testing.T) {
	for _, text := range []string{"a", "z", "az", "abc", "zzzzzzzz", "abcdefgh"} {
		expectTextValid(t, text, true)
	}
	for _, text := range []string{"", "A", "1", "a1", "1a", "aBc", "abcdefghi", "a b", "é"} {
		expectTextValid(t, text, false)
	}
}

func TestP59TextsHaveOneToEightBytes(t *testing.T) {
	for size := 0; size <= 40; size++ {
		for _, letter := range []string{"a", "m", "z"} {
			expectTextValid(t, strings.Repeat(letter, size), size >= 1 && size <= 8)
		}
		expectTextValid(t, strings.Repeat("A", size), false)
		expectTextValid(t, strings.Repeat("\x00", size), false)
	}
	if impl.TextValid(strings.Repeat("a", 1<<20)) {
		t.Error("a long text is valid")
	}
}

// expectTextAsReckoned expects what the document says about one text, whatever its bytes are.
func expectTextAsReckoned(t *testing.T, text string) {
	t.Helper()
	expectTextValid(t, text, isText(text))
	if isText(text) {
		expectBucket(t, text, bucketBySums(text))
	} else {
		expectBucket(t, text, -1)
		expectFile(t, poolNames(0x777), text, -1)
	}
}

func TestP59EveryByteAtEveryPlace(t *testing.T) {
	for size := 1; size <= longestText+1; size++ {
		for at := range size {
			for b := 0; b <= 255; b++ {
				text := []byte(strings.Repeat("q", size))
				text[at] = byte(b)
				expectTextAsReckoned(t, string(text))
			}
		}
	}
}

func TestP59AllTextsOfTwoBytes(t *testing.T) {
	for first := 0; first <= 255; first++ {
		for second := 0; second <= 255; second++ {
			expectTextAsReckoned(t, string([]byte{byte(first), byte(second)}))
		}
	}
}

func TestP59WrongTextsAreNotValid(t *testing.T) {
	for _, text := range wrongTexts() {
		expectTextValid(t, text, false)
	}
}

func TestP59WithADigitAfterItATextIsNotValid(t *testing.T) {
	for _, text := range goodTexts() {
		expectTextValid(t, text, true)
		for digit := '0'; digit <= '9'; digit++ {
			expectTextValid(t, text+string(digit), false)
			expectTextValid(t, string(digit)+text, false)
		}
	}
}

func TestP59TheFirstLetterOfAValidTextIsValid(t *testing.T) {
	for _, text := range goodTexts() {
		for size := 1; size <= len(text); size++ {
			expectTextValid(t, text[:size], true)
			expectTextValid(t, text[size-1:], true)
		}
	}
}

// P60: buckets are few.

// workedBucket is the bucket of a text, with what there is after every byte, worked out by hand.
type workedBucket struct {
	text   string
	steps  []int
	bucket int
}

func workedBuckets() []workedBucket {
	return []workedBucket{
		// 31*7 + 97 = 314; 314 - 104*3 = 2.
		{"a", []int{314}, 2},
		// 31*7 + 98 = 315; 315 - 105*3 = 0.
		{"b", []int{315}, 0},
		// 31*7 + 99 = 316; 316 - 105*3 = 1.
		{"c", []int{316}, 1},
		// 31*7 + 122 = 339; 339 - 113*3 = 0.
		{"z", []int{339}, 0},
		// 31*314 + 97 = 9831 = 9*1009 + 750.
		{"aa", []int{314, 750}, 0},
		// 31*314 + 98 = 9832 = 9*1009 + 751; 31*315 + 97 = 9862 = 9*1009 + 781.
		{"ab", []int{314, 751}, 1},
		{"ba", []int{315, 781}, 1},
		// 31*314 + 122 = 9856 = 9*1009 + 775; 31*339 + 97 = 10606 = 10*1009 + 516.
		{"az", []int{314, 775}, 1},
		{"za", []int{339, 516}, 0},
		// 31*325 + 111 = 10186 = 10*1009 + 96; 31*96 + 103 = 3079 = 3*1009 + 52.
		{"log", []int{325, 96, 52}, 1},
		// 31*320 + 111 = 10031 = 9*1009 + 950; 31*950 + 108 = 29558 = 29*1009 + 297.
		{"gol", []int{320, 950, 297}, 0},
		// 31*751 + 99 = 23380 = 23*1009 + 173; the same letters from c on: 31*316 + 98 = 9894 = 9*1009 + 813, 31*813 + 97 = 25300 = 25*1009 + 75.
		{"abc", []int{314, 751, 173}, 2},
		{"cba", []int{316, 813, 75}, 0},
		// 31*750 + 97 = 23347 = 23*1009 + 140; 31*140 + 97 = 4437 = 4*1009 + 401; 31*401 + 97 = 12528 = 12*1009 + 420; 31*420 + 97 = 13117 = 13*1009; 97; 31*97 + 97 = 3104 = 3*1009 + 77.
		{"aaaaaaaa", []int{314, 750, 140, 401, 420, 0, 97, 77}, 2},
		{"abcdefgh", []int{314, 751, 173, 418, 951, 322, 1004, 958}, 1},
		{"hgfedcba", []int{321, 973, 1004, 955, 444, 746, 17, 624}, 0},
		{"zzzzzzzz", []int{339, 541, 749, 134, 240, 499, 456, 132}, 0},
	}
}

func TestP60BucketsWorkedOutByHand(t *testing.T) {
	for _, w := range workedBuckets() {
		before := 7
		for n, step := range w.steps {
			// What is taken away is a number of times 1009.
			if taken := 31*before + int(w.text[n]) - step; step >= 1009 || taken%1009 != 0 {
				t.Errorf("%s: wrong working at %d", w.text, n)
			}
			before = step
		}
		if len(w.steps) != len(w.text) {
			t.Errorf("%s: wrong working", w.text)
		}
		expectBucket(t, w.text, w.bucket)
	}
}

func TestP60TheSameLettersInAnotherOrder(t *testing.T) {
	expectBucket(t, "az", 1)
	expectBucket(t, "za", 0)
	expectBucket(t, "log", 1)
	expectBucket(t, "gol", 0)
	expectBucket(t, "abc", 2)
	expectBucket(t, "bac", 1)
	expectBucket(t, "cab", 0)
	expectBucket(t, "note", 2)
	expectBucket(t, "eton", 2)
	expectBucket(t, "data", 1)
	expectBucket(t, "file", 1)
	expectBucket(t, "life", 1)
	expectBucket(t, "tape", 1)
	expectBucket(t, "pate", 2)
	expectBucket(t, "aaaaaaab", 0)
	expectBucket(t, "baaaaaaa", 1)
}

func TestP60BucketsOfAllShortTexts(t *testing.T) {
	for _, first := range smallLetters {
		expectBucket(t, string(first), bucketBySums(string(first)))
		for _, second := range smallLetters {
			for _, third := range smallLetters {
				text := string([]rune{first, second, third})
				expectBucket(t, text, bucketBySums(text))
				expectBucket(t, text+text+"yz", bucketBySums(text+text+"yz"))
			}
		}
	}
}

func TestP60BucketsAreLessThanBuckets(t *testing.T) {
	for _, text := range goodTexts() {
		expectBucket(t, text, bucketBySums(text))
		if got := impl.NameBucket(text); got < 0 || got >= 3 {
			t.Errorf("NameBucket(%q) = %d", text, got)
		}
	}
}

func TestP60OtherTextsHaveNoBucket(t *testing.T) {
	for _, text := range wrongTexts() {
		expectBucket(t, text, -1)
	}
	expectBucket(t, strings.Repeat("a", 1<<20), -1)
	for _, text := range goodTexts() {
		expectBucket(t, text+"1", -1)
		expectBucket(t, "A"+text, -1)
		expectBucket(t, text+"bcdefghi", -1)
	}
}

// P61: names come once.

func TestP61NoNamesAreValid(t *testing.T) {
	expectNamesValid(t, nil, true)
	expectNamesValid(t, []impl.Name{}, true)
	expectNamesValid(t, []impl.Name{{}}, false)
}

func TestP61NamesHaveTextsAndFiles(t *testing.T) {
	for _, text := range goodTexts() {
		for _, file := range []int{0, 1, 6, 7} {
			expectNamesValid(t, []impl.Name{{Text: text, File: file}}, true)
		}
		for _, file := range []int{math.MinInt, -8, -2, -1, 8, 9, 100, math.MaxInt} {
			expectNamesValid(t, []impl.Name{{Text: text, File: file}}, false)
		}
	}
	for _, text := range wrongTexts() {
		for file := -1; file <= filesOfTable; file++ {
			expectNamesValid(t, []impl.Name{{Text: text, File: file}}, false)
		}
	}
}

func TestP61BucketsDoNotDescend(t *testing.T) {
	// b is of the first bucket, c of the second one and a of the third one.
	expectNamesValid(t, []impl.Name{{Text: "b"}, {Text: "c"}, {Text: "a"}}, true)
	expectNamesValid(t, []impl.Name{{Text: "b"}, {Text: "a"}}, true)
	expectNamesValid(t, []impl.Name{{Text: "a"}, {Text: "b"}}, false)
	expectNamesValid(t, []impl.Name{{Text: "a"}, {Text: "c"}}, false)
	expectNamesValid(t, []impl.Name{{Text: "c"}, {Text: "b"}}, false)
	expectNamesValid(t, []impl.Name{{Text: "b"}, {Text: "a"}, {Text: "c"}}, false)
	expectNamesValid(t, []impl.Name{{Text: "c"}, {Text: "a"}, {Text: "e"}}, false)
}

func TestP61TextsAscendWithinABucket(t *testing.T) {
	for _, three := range [][]string{{"b", "e", "h"}, {"b", "bc", "z"}, {"c", "f", "i"}, {"abcdefgh", "c", "cc"}, {"a", "d", "g"}, {"a", "aaaaaaaa", "ac"}} {
		first, second, third := impl.Name{Text: three[0]}, impl.Name{Text: three[1], File: 7}, impl.Name{Text: three[2], File: 3}
		expectNamesValid(t, []impl.Name{first, second, third}, true)
		expectNamesValid(t, []impl.Name{first, third, second}, false)
		expectNamesValid(t, []impl.Name{second, first, third}, false)
		expectNamesValid(t, []impl.Name{second, first}, false)
		expectNamesValid(t, []impl.Name{first, first, second}, false)
		expectNamesValid(t, []impl.Name{first, second, second}, false)
		expectNamesValid(t, []impl.Name{first, {Text: first.Text, File: 5}}, false)
	}
}

func TestP61GreaterTextsMayStandInAnEarlierBucket(t *testing.T) {
	expectNamesValid(t, []impl.Name{{Text: "z"}, {Text: "abcdefgh"}}, true)
	expectNamesValid(t, []impl.Name{{Text: "x"}, {Text: "a"}}, true)
	expectNamesValid(t, []impl.Name{{Text: "zzzzzzzz"}, {Text: "life"}, {Text: "a"}}, true)
	expectNamesValid(t, []impl.Name{{Text: "a"}, {Text: "z"}}, false)
	expectNamesValid(t, []impl.Name{{Text: "abcdefgh"}, {Text: "z"}}, false)
}

// Names come once; files may have several names.
func TestP61FilesMayHaveSeveralNames(t *testing.T) {
	for file := range filesOfTable {
		expectNamesValid(t, []impl.Name{{Text: "b", File: file}, {Text: "e", File: file}, {Text: "c", File: file}, {Text: "a", File: file}}, true)
	}
}

func TestP61BucketsHaveAtMostThreeNames(t *testing.T) {
	for _, four := range [][]string{{"b", "e", "h", "k"}, {"c", "f", "i", "l"}, {"a", "d", "g", "j"}} {
		var list []impl.Name
		for many, text := range four {
			list = append(list, impl.Name{Text: text, File: many})
			expectNamesValid(t, list, many+1 <= 3)
		}
	}
	for _, list := range poolLists(true) {
		expectNamesValid(t, list, false)
	}
	// Three full buckets and one name more, and very many names.
	expectNamesValid(t, poolNames(0x777), true)
	expectNamesValid(t, poolNames(0xF77), false)
	expectNamesValid(t, poolNames(0xFFF), false)
	expectNamesValid(t, slices.Repeat(poolNames(0x777), 10000), false)
	expectNamesValid(t, slices.Repeat([]impl.Name{{Text: "a"}}, 100000), false)
}

func TestP61ValidNames(t *testing.T) {
	for _, list := range validNames() {
		expectNamesValid(t, list, true)
	}
}

func TestP61OtherNamesAreNotValid(t *testing.T) {
	for _, list := range invalidNames() {
		if areNames(list) {
			t.Fatal("valid names in the test", list)
		}
		expectNamesValid(t, list, false)
	}
}

func TestP61WithTheFirstOneTwiceNamesAreNotValid(t *testing.T) {
	for _, list := range validNames() {
		for at, name := range list {
			expectNamesValid(t, withNameAt(list, at, name), false)
			expectNamesValid(t, append(slices.Clone(list), name), false)
		}
	}
}

func TestP61WithoutTheFirstOneNamesAreValid(t *testing.T) {
	for _, list := range validNames() {
		for at := range list {
			expectNamesValid(t, list[at+1:], true)
			expectNamesValid(t, list[:at], true)
			expectNamesValid(t, withoutNameAt(list, at), true)
		}
	}
}

// shortLists are all lists of at most five names, in every order, of four texts of the last bucket and one of each other one.
func shortLists() [][]impl.Name {
	texts := []string{"a", "b", "c", "d", "g", "j"}
	var lists [][]impl.Name
	for size := 0; size <= 5; size++ {
		for _, numbers := range listsOf(numbersFromTo(0, len(texts)-1), size) {
			var list []impl.Name
			for at, n := range numbers {
				list = append(list, impl.Name{Text: texts[n], File: (n + 2*at) % filesOfTable})
			}
			lists = append(lists, list)
		}
	}
	return lists
}

// edgeNames are names with texts and files at and beside their limits.
func edgeNames() []impl.Name {
	var names []impl.Name
	for _, text := range []string{"", "a", "aa", "zzzzzzzz", "abcdefgh", "abcdefghi", "A", "a1", "{", "d"} {
		for _, file := range []int{math.MinInt, -1, 0, 7, 8, math.MaxInt} {
			names = append(names, impl.Name{Text: text, File: file})
		}
	}
	return names
}

// edgePairs are all lists of one or two of edgeNames.
func edgePairs() [][]impl.Name {
	var lists [][]impl.Name
	for _, first := range edgeNames() {
		lists = append(lists, []impl.Name{first})
		for _, second := range edgeNames() {
			lists = append(lists, []impl.Name{first, second})
		}
	}
	return lists
}

func TestP61AllShortLists(t *testing.T) {
	for _, list := range slices.Concat(shortLists(), edgePairs()) {
		expectNamesValid(t, list, areNames(list))
	}
}

// P62: names have files.

func TestP62FilesOfSomeNames(t *testing.T) {
	list := []impl.Name{{Text: "b", File: 4}, {Text: "c", File: 0}, {Text: "a", File: 7}, {Text: "d", File: 4}}
	expectFile(t, list, "b", 4)
	expectFile(t, list, "c", 0)
	expectFile(t, list, "a", 7)
	expectFile(t, list, "d", 4)
	expectFile(t, list, "g", -1)
	expectFile(t, list, "ab", -1)
	expectFile(t, list, "", -1)
	expectFile(t, list, "A", -1)
	expectFile(t, nil, "a", -1)
	expectFile(t, nil, "", -1)
	expectFile(t, []impl.Name{}, "a", -1)
}

func TestP62NamesHaveFiles(t *testing.T) {
	for _, list := range validNames() {
		for _, name := range list {
			expectFile(t, list, name.Text, name.File)
		}
	}
}

func TestP62TextsThatAreNotThereHaveNoFile(t *testing.T) {
	for _, list := range validNames() {
		for _, text := range slices.Concat(poolTexts(), []string{"aaaaaaa", "ab", "e", "lif", "lifes", "zzzzzzz", "", "B", "zzzzzzzzz"}) {
			if textAt(list, text) == -1 {
				expectFile(t, list, text, -1)
			}
		}
	}
}

func TestP62WrongTextsHaveNoFile(t *testing.T) {
	for _, list := range someNames() {
		for _, text := range wrongTexts() {
			expectFile(t, list, text, -1)
		}
	}
}

// Beginnings of texts that are there, and what goes on behind them, are other texts.
func TestP62OnlyWholeTextsAreFound(t *testing.T) {
	for n, text := range poolTexts() {
		list := []impl.Name{poolName(n)}
		for size := range len(text) {
			expectFile(t, list, text[:size], -1)
			expectFile(t, list, text[size+1:], -1)
		}
		for _, more := range []string{"a", "z", "\x00", " "} {
			expectFile(t, list, text+more, -1)
			expectFile(t, list, more+text, -1)
		}
	}
}

func TestP62OtherNamesHaveNoFile(t *testing.T) {
	for _, list := range invalidNames() {
		// Also the texts that stand among them.
		for _, name := range list {
			expectFile(t, list, name.Text, -1)
		}
		expectFile(t, list, "a", -1)
		expectFile(t, list, "", -1)
		expectFile(t, list, "dog", -1)
	}
}

func TestP62AllShortLists(t *testing.T) {
	for _, list := range slices.Concat(shortLists(), edgePairs()) {
		for _, text := range []string{"a", "b", "j", "aa", "zzzzzzzz", "abcdefghi", "A", ""} {
			if at := textAt(list, text); areNames(list) && at != -1 {
				expectFile(t, list, text, list[at].File)
			} else {
				expectFile(t, list, text, -1)
			}
		}
	}
}

// P8: put names are found.

func TestP8NamesComeToTheirPlaces(t *testing.T) {
	e, bc, c, f, a, d := impl.Name{Text: "e", File: 7}, impl.Name{Text: "bc", File: 3}, impl.Name{Text: "c", File: 0}, impl.Name{Text: "f", File: 1}, impl.Name{Text: "a", File: 2}, impl.Name{Text: "d", File: 7}
	// Into no names, at the end, at the front, between two names of a bucket, and between two buckets.
	expectNamePut(t, nil, d, []impl.Name{d}, true)
	expectNamePut(t, []impl.Name{}, d, []impl.Name{d}, true)
	expectNamePut(t, []impl.Name{e}, d, []impl.Name{e, d}, true)
	expectNamePut(t, []impl.Name{e, d}, bc, []impl.Name{bc, e, d}, true)
	expectNamePut(t, []impl.Name{bc, e, d}, a, []impl.Name{bc, e, a, d}, true)
	expectNamePut(t, []impl.Name{bc, e, a, d}, c, []impl.Name{bc, e, c, a, d}, true)
	expectNamePut(t, []impl.Name{bc, e, c, a, d}, f, []impl.Name{bc, e, c, f, a, d}, true)
	// Between two names of the first and of the second bucket.
	expectNamePut(t, []impl.Name{{Text: "b"}, e}, bc, []impl.Name{{Text: "b"}, bc, e}, true)
	expectNamePut(t, []impl.Name{c, {Text: "i"}}, f, []impl.Name{c, f, {Text: "i"}}, true)
	// A greater text in an earlier bucket stands before it.
	expectNamePut(t, []impl.Name{{Text: "a"}}, impl.Name{Text: "z"}, []impl.Name{{Text: "z"}, {Text: "a"}}, true)
	expectNamePut(t, []impl.Name{{Text: "z"}}, impl.Name{Text: "a"}, []impl.Name{{Text: "z"}, {Text: "a"}}, true)
}

func TestP8FilesHaveBounds(t *testing.T) {
	list := []impl.Name{{Text: "b", File: 0}, {Text: "f", File: 7}, {Text: "a", File: 3}}
	for _, file := range []int{0, 1, 6, 7} {
		expectNameFound(t, list, impl.Name{Text: "dog", File: file})
		expectNamePut(t, nil, impl.Name{Text: "dog", File: file}, []impl.Name{{Text: "dog", File: file}}, true)
	}
	for _, file := range []int{math.MinInt, -2, -1, 8, 9, math.MaxInt} {
		expectNameNotPut(t, list, impl.Name{Text: "dog", File: file})
		expectNameNotPut(t, nil, impl.Name{Text: "dog", File: file})
	}
	for _, list := range someNames() {
		for _, text := range poolTexts() {
			for file := -2; file <= filesOfTable+1; file++ {
				expectPutByTrying(t, list, impl.Name{Text: text, File: file})
			}
		}
	}
}

// expectFourthNotPut expects that a full bucket takes no fourth name, wherever it would stand in it.
func expectFourthNotPut(t *testing.T, four []string, before []impl.Name, behind []impl.Name) {
	t.Helper()
	var bucket []impl.Name
	for n, text := range four {
		bucket = append(bucket, impl.Name{Text: text, File: n})
	}
	for at, fourth := range bucket {
		expectNameNotPut(t, slices.Concat(before, withoutNameAt(bucket, at), behind), fourth)
		// Without one name more there is room again.
		room := withoutNameAt(withoutNameAt(bucket, at), 1)
		expectNameFound(t, slices.Concat(before, room, behind), fourth)
	}
}

func TestP8FullBucketsTakeNoFourthName(t *testing.T) {
	first := []impl.Name{{Text: "e", File: 7}, {Text: "q", File: 6}}
	second := []impl.Name{{Text: "f", File: 5}, {Text: "r", File: 4}}
	third := []impl.Name{{Text: "g", File: 3}, {Text: "s", File: 2}}
	for _, four := range [][]string{{"b", "bc", "h", "z"}, {"e", "h", "k", "n"}} {
		expectFourthNotPut(t, four, nil, nil)
		expectFourthNotPut(t, four, nil, slices.Concat(second, third))
	}
	for _, four := range [][]string{{"abcdefgh", "c", "cc", "x"}, {"f", "i", "l", "o"}} {
		expectFourthNotPut(t, four, nil, nil)
		expectFourthNotPut(t, four, first, third)
	}
	for _, four := range [][]string{{"a", "aaaaaaaa", "ac", "y"}, {"d", "g", "j", "m"}} {
		expectFourthNotPut(t, four, nil, nil)
		expectFourthNotPut(t, four, slices.Concat(first, second), nil)
	}
}

func TestP8NineNamesTakeNoFurtherOne(t *testing.T) {
	for _, set := range []int{0x777, 0xEEE, 0x7BD, 0xDDB} {
		list := poolNames(set)
		for _, text := range goodTexts() {
			expectNameNotPut(t, list, impl.Name{Text: text, File: 3})
		}
	}
}

func TestP8TheSameTextIsNotPutAgain(t *testing.T) {
	for _, list := range validNames() {
		for _, name := range list {
			expectNameNotPut(t, list, name)
			expectNameNotPut(t, list, impl.Name{Text: name.Text, File: (name.File + 1) % filesOfTable})
		}
	}
}

func TestP8NamesThatCanStandNowhereAreNotPut(t *testing.T) {
	for _, list := range someNames() {
		for _, name := range wrongNames() {
			expectNameNotPut(t, list, name)
		}
	}
}

func TestP8OtherNamesTakeNone(t *testing.T) {
	for _, list := range invalidNames() {
		for _, name := range []impl.Name{{Text: "dog", File: 3}, {Text: "a", File: 0}, {Text: "e", File: 7}, {Text: "e", File: 8}, {}, {Text: "A", File: -1}} {
			expectNamePut(t, list, name, nil, false)
		}
	}
	for _, list := range someInvalidNames() {
		for _, name := range slices.Concat(wrongNames(), list) {
			expectNamePut(t, list, name, nil, false)
		}
	}
}

// expectNameFound expects what promise 8 says about a further name.
func expectNameFound(t *testing.T, list []impl.Name, n impl.Name) {
	t.Helper()
	after, done := impl.PutName(list, n)
	if !done || len(after) != len(list)+1 {
		t.Errorf("PutName(%#v, %#v) = %#v, %t", list, n, after, done)
	}
	expectNamesValid(t, after, true)
	expectFile(t, after, n.Text, n.File)
	for _, name := range list {
		expectFile(t, after, name.Text, name.File)
	}
	expectDrop(t, after, n.Text, list, true)
}

// expectPutByTrying expects what the document says about a further name.
func expectPutByTrying(t *testing.T, list []impl.Name, n impl.Name) {
	t.Helper()
	after, done := putByTrying(list, n)
	expectNamePut(t, list, n, after, done)
	if done {
		expectNameFound(t, list, n)
	}
}

func TestP8PutNamesAreFound(t *testing.T) {
	for _, list := range validNames() {
		for n := range poolTexts() {
			expectPutByTrying(t, list, poolName(n))
		}
	}
}

func TestP8AllShortLists(t *testing.T) {
	for _, list := range shortLists() {
		for _, text := range []string{"a", "b", "c", "d", "g", "j"} {
			expectPutByTrying(t, list, impl.Name{Text: text, File: 6})
		}
	}
	for _, list := range edgePairs() {
		for _, name := range edgeNames() {
			expectPutByTrying(t, list, name)
		}
	}
}

func TestP8TheOrderOfPuttingDoesNotMatter(t *testing.T) {
	names := poolNames(0x7BD)
	for first := range names {
		forth, back := []impl.Name{}, []impl.Name{}
		for n := range names {
			forth, _ = impl.PutName(forth, names[(first+n)%len(names)])
			back, _ = impl.PutName(back, names[(first+len(names)-n)%len(names)])
		}
		if !slices.Equal(forth, names) || !slices.Equal(back, names) {
			t.Error(forth, back)
		}
	}
}

// P63: dropped names are gone.

func TestP63SomeNamesAreDropped(t *testing.T) {
	b, c, a, d := impl.Name{Text: "b", File: 7}, impl.Name{Text: "c", File: 0}, impl.Name{Text: "a", File: 7}, impl.Name{Text: "d", File: 2}
	list := []impl.Name{b, c, a, d}
	expectDrop(t, list, "b", []impl.Name{c, a, d}, true)
	expectDrop(t, list, "c", []impl.Name{b, a, d}, true)
	expectDrop(t, list, "a", []impl.Name{b, c, d}, true)
	expectDrop(t, list, "d", []impl.Name{b, c, a}, true)
	expectDrop(t, []impl.Name{a}, "a", nil, true)
	expectNotDropped(t, list, "g")
	expectNotDropped(t, list, "ab")
	expectNotDropped(t, list, "")
	expectNotDropped(t, list, "A")
	expectNotDropped(t, list, "aaaaaaaaa")
	expectNotDropped(t, []impl.Name{a}, "d")
}

func TestP63NothingIsDroppedFromNoNames(t *testing.T) {
	for _, text := range slices.Concat(goodTexts(), wrongTexts()) {
		expectDrop(t, nil, text, nil, false)
		expectDrop(t, []impl.Name{}, text, nil, false)
	}
}

func TestP63DroppedNamesAreGone(t *testing.T) {
	for _, list := range validNames() {
		for at, name := range list {
			expectDrop(t, list, name.Text, withoutNameAt(list, at), true)
			after, _ := impl.DropName(list, name.Text)
			expectFile(t, after, name.Text, -1)
			expectNotDropped(t, after, name.Text)
			expectNamePut(t, after, name, list, true)
			if len(after) != len(list)-1 {
				t.Errorf("DropName(%#v, %q) = %#v", list, name.Text, after)
			}
		}
	}
}

func TestP63TextsThatAreNotThereAreNotDropped(t *testing.T) {
	for _, list := range validNames() {
		for _, text := range slices.Concat(poolTexts(), []string{"aaaaaaa", "ab", "e", "lif", "lifes", "zzzzzzz", "", "B", "zzzzzzzzz"}) {
			if textAt(list, text) == -1 {
				expectNotDropped(t, list, text)
			}
		}
	}
}

func TestP63WrongTextsAreNotDropped(t *testing.T) {
	for _, list := range someNames() {
		for _, text := range wrongTexts() {
			expectNotDropped(t, list, text)
		}
	}
}

func TestP63NothingIsDroppedFromOtherNames(t *testing.T) {
	for _, list := range invalidNames() {
		// Also the texts that stand among them.
		for _, name := range list {
			expectDrop(t, list, name.Text, nil, false)
		}
		expectDrop(t, list, "a", nil, false)
		expectDrop(t, list, "", nil, false)
		expectDrop(t, list, "dog", nil, false)
	}
}

func TestP63AllShortLists(t *testing.T) {
	for _, list := range slices.Concat(shortLists(), edgePairs()) {
		for _, text := range []string{"a", "b", "j", "aa", "zzzzzzzz", "abcdefghi", "A", ""} {
			at := textAt(list, text)
			switch {
			case !areNames(list):
				expectDrop(t, list, text, nil, false)
			case at == -1:
				expectNotDropped(t, list, text)
			default:
				expectDrop(t, list, text, withoutNameAt(list, at), true)
			}
		}
	}
}

// What is given and what is returned share no memory.

// nameCall is a function of the chapter that takes names, with all other arguments, and the names that it returns.
type nameCall struct {
	name string
	call func(list []impl.Name) []impl.Name
}

// nameCalls are calls that change names, leave them as they are, or are not valid.
func nameCalls() []nameCall {
	calls := []nameCall{{"NamesValid", func(list []impl.Name) []impl.Name { impl.NamesValid(list); return nil }}}
	for _, text := range slices.Concat(poolTexts(), []string{"bb", "e", "f", "g", "zebra", "", "A", "aaaaaaaaa"}) {
		calls = append(calls, nameCall{"FindName", func(list []impl.Name) []impl.Name { impl.FindName(list, text); return nil }})
		calls = append(calls, nameCall{"DropName", func(list []impl.Name) []impl.Name {
			after, _ := impl.DropName(list, text)
			return after
		}})
		for _, file := range []int{-1, 3, filesOfTable} {
			calls = append(calls, nameCall{"PutName", func(list []impl.Name) []impl.Name {
				after, _ := impl.PutName(list, impl.Name{Text: text, File: file})
				return after
			}})
		}
	}
	return calls
}

// namesWithRoom returns names with room behind them, and the names together with that room.
func namesWithRoom(list []impl.Name) ([]impl.Name, []impl.Name) {
	room := append(slices.Clone(list), impl.Name{Text: "yy", File: 1}, impl.Name{Text: "room", File: 2}, impl.Name{Text: "?", File: 77})
	return room[:len(list)], room
}

// overwriteNames writes into all memory of some names.
func overwriteNames(list []impl.Name) {
	all := list[:cap(list)]
	for n := range all {
		all[n] = impl.Name{Text: "!", File: -77}
	}
}

func namesInMemory() [][]impl.Name {
	return append(someNames(), someInvalidNames()...)
}

func TestNamesGivenAreNotWrittenTo(t *testing.T) {
	lists := namesInMemory()
	for _, c := range nameCalls() {
		for _, list := range lists {
			given, room := namesWithRoom(list)
			before := slices.Clone(room)
			after := c.call(given)
			if !slices.Equal(room, before) {
				t.Fatalf("%s(%#v) writes into it", c.name, list)
			}
			overwriteNames(after)
			if !slices.Equal(room, before) {
				t.Fatalf("%s(%#v) shares memory with it", c.name, list)
			}
		}
	}
}

func TestNamesReturnedShareNoMemory(t *testing.T) {
	lists := namesInMemory()
	for _, c := range nameCalls() {
		for _, list := range lists {
			other := c.call(list)
			otherBefore := slices.Clone(other)
			overwriteNames(c.call(list))
			if !slices.Equal(other, otherBefore) || !slices.Equal(c.call(list), otherBefore) {
				t.Fatalf("%s(%#v) shares memory with another result", c.name, list)
			}
		}
	}
}
