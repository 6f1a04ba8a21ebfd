package tests

import (
	"math"
	"reflect"
	"testing"

	"loop.example/flashfiles/impl"
)

// pageField is a number of a page, with its least and its greatest value on a written page.
type pageField struct {
	name     string
	least    int
	greatest int
}

func pageFields() []pageField {
	return []pageField{{"File", 0, 7}, {"Place", 0, 5}, {"Value", 0, 9999}, {"Stamp", 1, 1000000}}
}

// withField returns a page with another number in one field.
func withField(p impl.Page, name string, n int) impl.Page {
	switch name {
	case "File":
		p.File = n
	case "Place":
		p.Place = n
	case "Value":
		p.Value = n
	case "Stamp":
		p.Stamp = n
	}
	return p
}

func written(file int, place int, value int, stamp int) impl.Page {
	return impl.Page{Full: true, File: file, Place: place, Value: value, Stamp: stamp}
}

// someWritten are written pages: with all numbers least, ordinary, and greatest.
func someWritten() []impl.Page {
	return []impl.Page{written(0, 0, 0, 1), written(3, 2, 45, 67), written(7, 5, 9999, 1000000)}
}

// beside are numbers that a field cannot have on a written page.
func beside(f pageField) []int {
	return []int{f.least - 1, f.least - 2, f.greatest + 1, f.greatest + 2, -f.greatest, math.MinInt, math.MaxInt}
}

// validPages are written pages with all fields mixed, and the zero value.
func validPages() []impl.Page {
	pages := []impl.Page{{}}
	for _, file := range []int{0, 3, 7} {
		for _, place := range []int{0, 2, 5} {
			for _, value := range []int{0, 45, 9999} {
				for _, stamp := range []int{1, 67, 1000000} {
					pages = append(pages, written(file, place, value, stamp))
				}
			}
		}
	}
	return pages
}

// notWrittenWithNumbers are pages that are not written, but have something else.
func notWrittenWithNumbers() []impl.Page {
	var pages []impl.Page
	for _, f := range pageFields() {
		for _, n := range []int{1, -1, f.greatest, f.greatest + 1, math.MinInt, math.MaxInt} {
			pages = append(pages, withField(impl.Page{}, f.name, n))
		}
	}
	for _, p := range someWritten() {
		p.Full = false
		pages = append(pages, p)
	}
	return pages
}

// writtenOutOfBounds are written pages with one number out of its bounds.
func writtenOutOfBounds() []impl.Page {
	pages := []impl.Page{{Full: true}}
	for _, p := range someWritten() {
		for _, f := range pageFields() {
			for _, n := range beside(f) {
				pages = append(pages, withField(p, f.name, n))
			}
		}
	}
	return pages
}

func invalidPages() []impl.Page {
	return append(notWrittenWithNumbers(), writtenOutOfBounds()...)
}

func expectPageValid(t *testing.T, p impl.Page, valid bool) {
	t.Helper()
	if got := impl.PageValid(p); got != valid {
		t.Errorf("PageValid(%+v) = %t", p, got)
	}
}

// expectOnlyValid expects that a page is valid with the numbers of a range in one field, and with no other one from -2 to 2 above its greatest.
func expectOnlyValid(t *testing.T, p impl.Page, f pageField, from int, to int) {
	t.Helper()
	for n := -2; n <= f.greatest+2; n++ {
		changed := withField(p, f.name, n)
		// A wrong answer may come for all stamps: one of them is enough to tell.
		if valid := n >= from && n <= to; impl.PageValid(changed) != valid {
			t.Errorf("PageValid(%+v) = %t", changed, !valid)
			return
		}
	}
}

func expectSamePlace(t *testing.T, a impl.Page, b impl.Page, same bool) {
	t.Helper()
	if got := impl.SamePlace(a, b); got != same {
		t.Errorf("SamePlace(%+v, %+v) = %t", a, b, got)
	}
}

func expectNewer(t *testing.T, a impl.Page, b impl.Page, newer impl.Page) {
	t.Helper()
	if got := impl.NewerPage(a, b); got != newer {
		t.Errorf("NewerPage(%+v, %+v) = %+v, not %+v", a, b, got, newer)
	}
}

func TestLimitsOfPages(t *testing.T) {
	if impl.MaxFiles != 8 || impl.MaxPlace != 5 || impl.MaxValue != 9999 || impl.MaxStamp != 1000000 {
		t.Fatal(impl.MaxFiles, impl.MaxPlace, impl.MaxValue, impl.MaxStamp)
	}
}

// A page of plain fields is copied whole with every call: no function can write into an argument of it, and no result can share memory.
func TestPagesHavePlainFieldsOnly(t *testing.T) {
	page := reflect.TypeFor[impl.Page]()
	want := []string{"Full bool", "File int", "Place int", "Value int", "Stamp int"}
	var got []string
	for field := range page.Fields() {
		got = append(got, field.Name+" "+field.Type.String())
	}
	if !reflect.DeepEqual(got, want) {
		t.Fatalf("a page has %v, not %v", got, want)
	}
}

func TestP34TheZeroValueIsAPage(t *testing.T) {
	expectPageValid(t, impl.Page{}, true)
}

func TestP34PagesThatAreNotWrittenHaveNothing(t *testing.T) {
	for _, p := range notWrittenWithNumbers() {
		expectPageValid(t, p, false)
	}
}

func TestP34OneNumberIsTooMuchForPagesThatAreNotWritten(t *testing.T) {
	for _, f := range pageFields() {
		expectOnlyValid(t, impl.Page{}, f, 0, 0)
	}
}

func TestP34WrittenPagesAreValidWithinTheirBounds(t *testing.T) {
	for _, p := range validPages() {
		expectPageValid(t, p, true)
	}
}

func TestP34EveryNumberOfWrittenPagesHasBounds(t *testing.T) {
	for _, p := range someWritten() {
		for _, f := range pageFields() {
			expectOnlyValid(t, p, f, f.least, f.greatest)
		}
	}
}

func TestP34WrittenPagesOutOfBoundsAreNotValid(t *testing.T) {
	for _, p := range writtenOutOfBounds() {
		expectPageValid(t, p, false)
	}
}

func TestP35PlacesOfSomePages(t *testing.T) {
	p := written(3, 2, 45, 67)
	cases := []struct {
		b    impl.Page
		same bool
	}{
		{p, true},
		{written(3, 2, 9999, 67), true},
		{written(3, 2, 45, 1), true},
		{written(3, 2, 0, 1000000), true},
		{written(2, 2, 45, 67), false},
		{written(4, 2, 45, 67), false},
		{written(3, 1, 45, 67), false},
		{written(3, 3, 45, 67), false},
		{written(2, 3, 45, 67), false},
		{impl.Page{}, false},
		{impl.Page{File: 3, Place: 2, Value: 45, Stamp: 67}, false},
		{written(3, 2, 10000, 67), false},
		{written(3, 2, 45, 0), false},
	}
	for _, c := range cases {
		expectSamePlace(t, p, c.b, c.same)
		expectSamePlace(t, c.b, p, c.same)
	}
}

func TestP35PagesThatAreNotWrittenAreAtNoPlace(t *testing.T) {
	expectSamePlace(t, impl.Page{}, impl.Page{}, false)
	expectSamePlace(t, impl.Page{}, written(0, 0, 0, 1), false)
	expectSamePlace(t, written(0, 0, 0, 1), impl.Page{}, false)
}

func TestP35WrittenPagesAreAtTheirOwnPlaces(t *testing.T) {
	for _, p := range validPages() {
		expectSamePlace(t, p, p, p.Full)
	}
}

func TestP35PlacesAreTheSameInBothDirections(t *testing.T) {
	for _, a := range validPages() {
		for _, b := range validPages() {
			same := a.Full && b.Full && a.File == b.File && a.Place == b.Place
			expectSamePlace(t, a, b, same)
			expectSamePlace(t, b, a, same)
		}
		if t.Failed() {
			return
		}
	}
}

func TestP35OtherPagesAreAtNoPlace(t *testing.T) {
	for _, wrong := range invalidPages() {
		for _, p := range validPages() {
			expectSamePlace(t, wrong, p, false)
			expectSamePlace(t, p, wrong, false)
			// With the same file and place, so that a wrong value or stamp alone must be enough.
			expectSamePlace(t, wrong, written(wrong.File, wrong.Place, p.Value, p.Stamp), false)
		}
		for _, other := range invalidPages() {
			expectSamePlace(t, wrong, other, false)
		}
		if t.Failed() {
			return
		}
	}
}

func TestP36NewerOnesOfSomePages(t *testing.T) {
	p := written(3, 2, 45, 67)
	least := written(0, 0, 0, 1)
	greatest := written(7, 5, 9999, 1000000)
	cases := []struct{ a, b, newer impl.Page }{
		{p, least, p},
		{least, p, p},
		{p, greatest, greatest},
		{greatest, p, greatest},
		{p, written(3, 2, 45, 66), p},
		{p, written(3, 2, 45, 68), written(3, 2, 45, 68)},
		{p, written(3, 2, 0, 67), p},
		{written(3, 2, 0, 67), p, written(3, 2, 0, 67)},
		{p, written(7, 5, 9999, 67), p},
		{written(7, 5, 9999, 67), p, written(7, 5, 9999, 67)},
		{p, impl.Page{}, p},
		{impl.Page{}, p, p},
		{least, impl.Page{}, least},
		{impl.Page{}, least, least},
		{impl.Page{}, impl.Page{}, impl.Page{}},
		{p, impl.Page{Value: 1}, impl.Page{}},
		{impl.Page{Value: 1}, p, impl.Page{}},
		{p, impl.Page{Stamp: 68}, impl.Page{}},
		{p, written(3, 2, 45, 1000001), impl.Page{}},
		{p, written(3, 2, 45, 0), impl.Page{}},
		{p, written(8, 2, 45, 66), impl.Page{}},
		{written(8, 2, 45, 68), p, impl.Page{}},
	}
	for _, c := range cases {
		expectNewer(t, c.a, c.b, c.newer)
	}
}

func TestP36NewerPagesAreOneOfBoth(t *testing.T) {
	for _, a := range validPages() {
		for _, b := range validPages() {
			newer := impl.NewerPage(a, b)
			if newer != a && newer != b {
				t.Errorf("NewerPage(%+v, %+v) = %+v is none of both", a, b, newer)
			}
			if newer.Stamp < a.Stamp || newer.Stamp < b.Stamp {
				t.Errorf("NewerPage(%+v, %+v) = %+v, but one has a greater Stamp", a, b, newer)
			}
			if a.Stamp == b.Stamp {
				expectNewer(t, a, b, a)
			}
		}
		if t.Failed() {
			return
		}
	}
}

func TestP36OfAPageAndItselfItIsThat(t *testing.T) {
	for _, p := range validPages() {
		expectNewer(t, p, p, p)
	}
}

func TestP36NoneOfOtherPagesIsNewer(t *testing.T) {
	for _, wrong := range invalidPages() {
		for _, p := range validPages() {
			expectNewer(t, wrong, p, impl.Page{})
			expectNewer(t, p, wrong, impl.Page{})
		}
		for _, other := range invalidPages() {
			expectNewer(t, wrong, other, impl.Page{})
		}
		if t.Failed() {
			return
		}
	}
}
