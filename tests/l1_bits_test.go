package tests

import (
	"math"
	"testing"

	"loop.example/flashfiles/impl"
)

const setNumbers = 16

func invalidSets() []int {
	return []int{-1, -2, -impl.MaxSet, impl.MaxSet + 1, impl.MaxSet + 2, 2*impl.MaxSet + 1, math.MinInt, math.MaxInt}
}

func invalidSetNumbers() []int {
	return []int{-1, -2, -16, setNumbers, setNumbers + 1, 63, 64, 65, math.MinInt, math.MaxInt}
}

// someSets are ordinary sets, the empty one and the full one.
func someSets() []int {
	return []int{0, 1, 2, 3, 10, 11, 255, 256, 4096, 21845, 32768, 32769, 43690, 65534, impl.MaxSet}
}

// hasByHalving tells without impl whether a set has a number.
func hasByHalving(set int, n int) bool {
	for i := 0; i < n; i++ {
		set /= 2
	}
	return set%2 == 1
}

func TestMaxSetIsTheFullSet(t *testing.T) {
	if impl.MaxSet != 65535 {
		t.Fatalf("MaxSet is %d", impl.MaxSet)
	}
}

func TestSetsOfOneNumberArePowersOfTwo(t *testing.T) {
	power := 1
	for n := 0; n < setNumbers; n++ {
		if got := impl.BitPut(0, n, true); got != power {
			t.Errorf("BitPut(0, %d, true) = %d, not %d", n, got, power)
		}
		if got := impl.BitPut(power, n, false); got != 0 {
			t.Errorf("BitPut(%d, %d, false) = %d, not 0", power, n, got)
		}
		power *= 2
	}
}

func TestP27CountsOfSomeSets(t *testing.T) {
	cases := []struct{ set, count int }{
		{0, 0}, {1, 1}, {2, 1}, {3, 2}, {10, 2}, {255, 8}, {256, 1}, {32768, 1}, {32769, 2}, {43690, 8}, {65534, 15}, {impl.MaxSet, 16},
	}
	for _, c := range cases {
		if got := impl.BitCount(c.set); got != c.count {
			t.Errorf("BitCount(%d) = %d, not %d", c.set, got, c.count)
		}
	}
}

func TestP27SetsHaveNumbers(t *testing.T) {
	for set := 0; set <= impl.MaxSet; set++ {
		count := 0
		for n := 0; n < setNumbers; n++ {
			has := impl.BitHas(set, n)
			if has != hasByHalving(set, n) {
				t.Fatalf("BitHas(%d, %d) = %t", set, n, has)
			}
			if has {
				count++
			}
		}
		if got := impl.BitCount(set); got != count {
			t.Fatalf("BitCount(%d) = %d, but it has %d numbers", set, got, count)
		}
	}
}

func TestP27OtherSetsHaveNoCount(t *testing.T) {
	for _, set := range invalidSets() {
		if got := impl.BitCount(set); got != -1 {
			t.Errorf("BitCount(%d) = %d, not -1", set, got)
		}
	}
}

func TestP28PutsToSomeSets(t *testing.T) {
	cases := []struct {
		set, n int
		has    bool
		want   int
	}{
		{0, 0, true, 1}, {0, 15, true, 32768}, {0, 0, false, 0}, {0, 15, false, 0},
		{10, 0, true, 11}, {10, 1, true, 10}, {10, 1, false, 8}, {10, 3, false, 2}, {10, 2, false, 10},
		{impl.MaxSet, 0, false, 65534}, {impl.MaxSet, 15, false, 32767}, {impl.MaxSet, 0, true, impl.MaxSet}, {impl.MaxSet, 15, true, impl.MaxSet},
	}
	for _, c := range cases {
		if got := impl.BitPut(c.set, c.n, c.has); got != c.want {
			t.Errorf("BitPut(%d, %d, %t) = %d, not %d", c.set, c.n, c.has, got, c.want)
		}
	}
}

func TestP28PutNumbersAreThere(t *testing.T) {
	for set := 0; set <= impl.MaxSet; set++ {
		for n := 0; n < setNumbers; n++ {
			with := impl.BitPut(set, n, true)
			if !impl.BitHas(with, n) {
				t.Fatalf("BitPut(%d, %d, true) = %d, without %d", set, n, with, n)
			}
			without := impl.BitPut(set, n, false)
			if without < 0 || impl.BitHas(without, n) {
				t.Fatalf("BitPut(%d, %d, false) = %d, no set without %d", set, n, without, n)
			}
		}
	}
}

func TestP28OtherArgumentsPutNothing(t *testing.T) {
	for _, has := range []bool{false, true} {
		for _, set := range invalidSets() {
			for n := 0; n < setNumbers; n++ {
				expectNoPut(t, set, n, has)
			}
			expectNoPut(t, set, -1, has)
			expectNoPut(t, set, setNumbers, has)
		}
		for _, n := range invalidSetNumbers() {
			for _, set := range someSets() {
				expectNoPut(t, set, n, has)
			}
		}
	}
}

func expectNoPut(t *testing.T, set int, n int, has bool) {
	t.Helper()
	if got := impl.BitPut(set, n, has); got != -1 {
		t.Errorf("BitPut(%d, %d, %t) = %d, not -1", set, n, has, got)
	}
}

func TestP28OtherArgumentsAreNotThere(t *testing.T) {
	for _, set := range invalidSets() {
		for n := 0; n < setNumbers; n++ {
			if impl.BitHas(set, n) {
				t.Errorf("BitHas(%d, %d) is true", set, n)
			}
		}
	}
	for _, n := range invalidSetNumbers() {
		for _, set := range someSets() {
			if impl.BitHas(set, n) {
				t.Errorf("BitHas(%d, %d) is true", set, n)
			}
		}
	}
}

func TestP29OnlyOneNumberChanges(t *testing.T) {
	for set := 0; set <= impl.MaxSet; set++ {
		for n := 0; n < setNumbers; n++ {
			expectOnlyOneChange(t, set, n, false)
			expectOnlyOneChange(t, set, n, true)
		}
		if t.Failed() {
			return
		}
	}
}

func expectOnlyOneChange(t *testing.T, set int, n int, has bool) {
	t.Helper()
	after := impl.BitPut(set, n, has)
	if after < 0 || after > impl.MaxSet {
		t.Errorf("BitPut(%d, %d, %t) = %d is no set", set, n, has, after)
	}
	for other := 0; other < setNumbers; other++ {
		if other != n && hasByHalving(after, other) != hasByHalving(set, other) {
			t.Errorf("BitPut(%d, %d, %t) = %d changes %d", set, n, has, after, other)
		}
	}
	if again := impl.BitPut(after, n, has); again != after {
		t.Errorf("BitPut(%d, %d, %t) = %d changes something again", after, n, has, again)
	}
}

func TestP30FirstNumbersOfSomeSets(t *testing.T) {
	cases := []struct{ set, first int }{
		{0, -1}, {1, 0}, {2, 1}, {3, 0}, {10, 1}, {256, 8}, {32768, 15}, {32769, 0}, {49152, 14}, {65534, 1}, {impl.MaxSet, 0},
	}
	for _, c := range cases {
		if got := impl.BitFirst(c.set); got != c.first {
			t.Errorf("BitFirst(%d) = %d, not %d", c.set, got, c.first)
		}
	}
}

func TestP30FirstNumbersAreLeast(t *testing.T) {
	for set := 1; set <= impl.MaxSet; set++ {
		first := impl.BitFirst(set)
		if first < 0 || first >= setNumbers || !hasByHalving(set, first) {
			t.Fatalf("BitFirst(%d) = %d is not in it", set, first)
		}
		for n := 0; n < first; n++ {
			if hasByHalving(set, n) {
				t.Fatalf("BitFirst(%d) = %d, but it has %d", set, first, n)
			}
		}
	}
}

func TestP30OtherSetsHaveNoFirstNumber(t *testing.T) {
	for _, set := range invalidSets() {
		if got := impl.BitFirst(set); got != -1 {
			t.Errorf("BitFirst(%d) = %d, not -1", set, got)
		}
	}
}
