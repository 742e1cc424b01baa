package tests

import (
	"math"
	"slices"
	"strconv"
	"testing"

	"loop.example/carrytriangles/impl"
)

// mostAdded is the greatest number that CarriesOf adds.
const mostAdded = 499999999

// writtenDigits tells the digits of a number, from the lowest one on, by how the library writes it: without the program.
func writtenDigits(n, base int) []int {
	var digits []int
	if n == 0 {
		return digits
	}
	for _, mark := range strconv.FormatInt(int64(n), base) {
		digit, _ := strconv.ParseInt(string(mark), base, 0)
		digits = append(digits, int(digit))
	}
	slices.Reverse(digits)
	return digits
}

func writtenSum(n, base int) int {
	sum := 0
	for _, digit := range writtenDigits(n, base) {
		sum += digit
	}
	return sum
}

// writtenUnder reports whether the digits of a number are at most those of another one.
func writtenUnder(a, b, base int) bool {
	upper := writtenDigits(b, base)
	for place, digit := range writtenDigits(a, base) {
		if place >= len(upper) || digit > upper[place] {
			return false
		}
	}
	return true
}

// carriesByRests counts the places up to which both numbers, cut off there, are together a power of the base or more.
func carriesByRests(a, b, base int) int {
	carries := 0
	for power := base; power <= (a+b)*base; power *= base {
		if a%power+b%power >= power {
			carries++
		}
	}
	return carries
}

// bases returns all bases.
func bases() []int {
	var all []int
	for base := 2; base <= impl.MaxBase; base++ {
		all = append(all, base)
	}
	return all
}

// otherBases returns numbers that are no bases.
func otherBases() []int {
	return append(outside(impl.MaxBase), 0, 1)
}

// numbersFor returns numbers up to a greatest one: the first ones, those around powers of the base, some far apart, and the last ones.
func numbersFor(base, most int) []int {
	var numbers []int
	for n := range min(40, most+1) {
		numbers = append(numbers, n, most-n)
	}
	for power := base; power <= most; power *= base {
		for _, n := range []int{power - 2, power - 1, power, power + 1, 2*power - 1, (base - 1) * power} {
			if n <= most {
				numbers = append(numbers, n)
			}
		}
	}
	for n := 7; n <= most; n = 3*n + 5 {
		numbers = append(numbers, n)
	}
	slices.Sort(numbers)
	return slices.Compact(numbers)
}

// onesLess returns a power of the base, less 1: the greatest such number up to a greatest one.
func onesLess(base, most int) int {
	power := base
	for power*base-1 <= most {
		power *= base
	}
	return power - 1
}

// Promise 6: digits make the number.

func TestGreatestNumberAndBase(t *testing.T) {
	if impl.MaxNumber != 999999999 || impl.MaxBase != 16 {
		t.Errorf("MaxNumber = %d and MaxBase = %d, want 999999999 and 16", impl.MaxNumber, impl.MaxBase)
	}
}

func TestDigitsOfKnownDigits(t *testing.T) {
	known := []struct {
		n, base int
		want    []int
	}{
		{0, 2, nil}, {0, 16, nil}, {1, 2, []int{1}}, {2, 2, []int{0, 1}}, {13, 3, []int{1, 1, 1}}, {255, 16, []int{15, 15}}, {256, 16, []int{0, 0, 1}},
		{15, 16, []int{15}}, {16, 16, []int{0, 1}}, {1000, 10, []int{0, 0, 0, 1}}, {302, 10, []int{2, 0, 3}},
		{999999999, 10, []int{9, 9, 9, 9, 9, 9, 9, 9, 9}}, {999999999, 16, []int{15, 15, 9, 12, 10, 9, 11, 3}},
		{536870911, 2, slices.Repeat([]int{1}, 29)}, {536870912, 2, append(make([]int, 29), 1)},
	}
	for _, k := range known {
		if got := impl.DigitsOf(k.n, k.base); !slices.Equal(got, k.want) {
			t.Errorf("DigitsOf(%d, %d) = %v, want %v", k.n, k.base, got, k.want)
		}
	}
}

func TestDigitsOfMakeTheNumber(t *testing.T) {
	for _, base := range bases() {
		for _, n := range numbersFor(base, impl.MaxNumber) {
			digits := impl.DigitsOf(n, base)
			sum, power := 0, 1
			for place, digit := range digits {
				if digit < 0 || digit >= base {
					t.Errorf("DigitsOf(%d, %d) has %d at %d", n, base, digit, place)
				}
				sum += digit * power
				power *= base
			}
			if sum != n {
				t.Errorf("DigitsOf(%d, %d) = %v, which make %d", n, base, digits, sum)
			}
			if len(digits) > 0 && digits[len(digits)-1] == 0 {
				t.Errorf("DigitsOf(%d, %d) = %v, with 0 as the highest one", n, base, digits)
			}
			if want := writtenDigits(n, base); !slices.Equal(digits, want) {
				t.Errorf("DigitsOf(%d, %d) = %v, want %v", n, base, digits, want)
			}
		}
	}
}

func TestDigitsOfOthers(t *testing.T) {
	for _, n := range outside(impl.MaxNumber) {
		for _, base := range append(bases(), otherBases()...) {
			if got := impl.DigitsOf(n, base); len(got) != 0 {
				t.Errorf("DigitsOf(%d, %d) = %v, want nothing", n, base, got)
			}
		}
	}
	for _, base := range otherBases() {
		for _, n := range []int{0, 1, 5, 17, impl.MaxNumber} {
			if got := impl.DigitsOf(n, base); len(got) != 0 {
				t.Errorf("DigitsOf(%d, %d) = %v, want nothing", n, base, got)
			}
		}
	}
}

func TestDigitsOfIsNewMemory(t *testing.T) {
	for _, n := range []int{1, 13, 255, impl.MaxNumber} {
		want := impl.DigitsOf(n, 2)
		spoilt := impl.DigitsOf(n, 2)
		spoilt = spoilt[:cap(spoilt)]
		for place := range spoilt {
			spoilt[place] = -7
		}
		if slices.Contains(want, -7) {
			t.Errorf("DigitsOf(%d, 2): two results share memory", n)
		}
		if got := impl.DigitsOf(n, 2); !slices.Equal(got, want) {
			t.Errorf("DigitsOf(%d, 2) = %v after a result was written to, want %v", n, got, want)
		}
	}
}

// Promise 7: digits leave what the number leaves.

func TestSumOfDigitsKnownSums(t *testing.T) {
	known := []struct{ n, base, want int }{
		{0, 2, 0}, {0, 10, 0}, {0, 16, 0}, {1, 2, 1}, {255, 2, 8}, {256, 2, 1}, {255, 16, 30}, {13, 3, 3}, {1000, 10, 1}, {302, 10, 5},
		{999999999, 10, 81}, {999999998, 10, 80}, {536870911, 2, 29}, {999999999, 16, 84},
	}
	for _, k := range known {
		if got := impl.SumOfDigits(k.n, k.base); got != k.want {
			t.Errorf("SumOfDigits(%d, %d) = %d, want %d", k.n, k.base, got, k.want)
		}
	}
}

func TestSumOfDigitsLeavesWhatTheNumberLeaves(t *testing.T) {
	for _, base := range bases() {
		for _, n := range numbersFor(base, impl.MaxNumber) {
			sum := impl.SumOfDigits(n, base)
			if want := writtenSum(n, base); sum != want {
				t.Errorf("SumOfDigits(%d, %d) = %d, want %d", n, base, sum, want)
			}
			if sum%(base-1) != n%(base-1) {
				t.Errorf("SumOfDigits(%d, %d) = %d, which leaves %d divided by %d, want %d", n, base, sum, sum%(base-1), base-1, n%(base-1))
			}
		}
	}
}

func TestSumOfDigitsTimesTheBase(t *testing.T) {
	for _, base := range bases() {
		for _, n := range numbersFor(base, impl.MaxNumber/base) {
			if got, want := impl.SumOfDigits(n*base, base), impl.SumOfDigits(n, base); got != want {
				t.Errorf("SumOfDigits(%d, %d) = %d, want %d", n*base, base, got, want)
			}
			if n == 0 {
				continue
			}
			want := append([]int{0}, impl.DigitsOf(n, base)...)
			if got := impl.DigitsOf(n*base, base); !slices.Equal(got, want) {
				t.Errorf("DigitsOf(%d, %d) = %v, want %v", n*base, base, got, want)
			}
		}
	}
}

func TestSumOfDigitsOthers(t *testing.T) {
	for _, n := range outside(impl.MaxNumber) {
		for _, base := range append(bases(), otherBases()...) {
			if got := impl.SumOfDigits(n, base); got != -1 {
				t.Errorf("SumOfDigits(%d, %d) = %d, want -1", n, base, got)
			}
		}
	}
	for _, base := range otherBases() {
		for _, n := range []int{0, 1, 5, 17, impl.MaxNumber} {
			if got := impl.SumOfDigits(n, base); got != -1 {
				t.Errorf("SumOfDigits(%d, %d) = %d, want -1", n, base, got)
			}
		}
	}
}

// Promise 8: carries are what digits lose.

func TestCarriesOfKnownCarries(t *testing.T) {
	known := []struct{ a, b, base, want int }{
		{0, 0, 2, 0}, {0, 0, 16, 0}, {0, 7, 2, 0}, {7, 0, 2, 0}, {1, 1, 2, 1}, {5, 3, 2, 3}, {5, 2, 2, 0}, {95, 5, 10, 2}, {5, 95, 10, 2},
		{99, 1, 10, 2}, {90, 10, 10, 1}, {9, 991, 10, 3}, {5, 5, 10, 1}, {5, 4, 10, 0}, {15, 1, 16, 1}, {8, 7, 16, 0}, {8, 8, 16, 1}, {255, 1, 16, 2},
		{1, 101, 2, 1}, {55, 45, 10, 2}, {54, 45, 10, 0}, {505, 505, 10, 2},
		{268435455, 1, 2, 28}, {1, 268435455, 2, 28}, {268435456, 268435456, 2, 1}, {268435455, 268435455, 2, 28},
		{499999999, 1, 10, 8}, {499999999, 499999999, 10, 8}, {499999999, 0, 10, 0}, {499999999, 499999999, 2, 20},
	}
	for _, k := range known {
		if got := impl.CarriesOf(k.a, k.b, k.base); got != k.want {
			t.Errorf("CarriesOf(%d, %d, %d) = %d, want %d", k.a, k.b, k.base, got, k.want)
		}
	}
}

// checkCarries holds the carries of two numbers against what digits lose, and against what is carried up to each place.
func checkCarries(t *testing.T, a, b, base int) {
	t.Helper()
	got := impl.CarriesOf(a, b, base)
	if want := impl.SumOfDigits(a, base) + impl.SumOfDigits(b, base) - impl.SumOfDigits(a+b, base); got*(base-1) != want {
		t.Errorf("CarriesOf(%d, %d, %d) = %d, but the digits lose %d", a, b, base, got, want)
	}
	if want := carriesByRests(a, b, base); got != want {
		t.Errorf("CarriesOf(%d, %d, %d) = %d, want %d", a, b, base, got, want)
	}
	if other := impl.CarriesOf(b, a, base); got != other {
		t.Errorf("CarriesOf(%d, %d, %d) = %d, but %d exchanged", a, b, base, got, other)
	}
}

func TestCarriesOfAreWhatDigitsLose(t *testing.T) {
	for _, base := range bases() {
		for a := range 90 {
			for b := range a + 1 {
				checkCarries(t, a, b, base)
			}
		}
		numbers := numbersFor(base, mostAdded)
		for _, a := range numbers {
			for _, b := range numbers {
				checkCarries(t, a, b, base)
			}
		}
	}
}

func TestCarriesOfRunThrough(t *testing.T) {
	for _, base := range bases() {
		nines := onesLess(base, mostAdded)
		places := len(writtenDigits(nines, base))
		for _, other := range []int{1, nines} {
			if got := impl.CarriesOf(nines, other, base); got != places {
				t.Errorf("CarriesOf(%d, %d, %d) = %d, want %d", nines, other, base, got, places)
			}
			if got := impl.CarriesOf(other, nines, base); got != places {
				t.Errorf("CarriesOf(%d, %d, %d) = %d, want %d", other, nines, base, got, places)
			}
		}
		if got := impl.CarriesOf(nines, 0, base); got != 0 {
			t.Errorf("CarriesOf(%d, 0, %d) = %d, want 0", nines, base, got)
		}
	}
}

func TestCarriesOfOthers(t *testing.T) {
	check := func(a, b, base int) {
		t.Helper()
		if got := impl.CarriesOf(a, b, base); got != -1 {
			t.Errorf("CarriesOf(%d, %d, %d) = %d, want -1", a, b, base, got)
		}
	}
	for _, bad := range append(outside(mostAdded), impl.MaxNumber, impl.MaxNumber+1) {
		for _, base := range append(bases(), otherBases()...) {
			for _, good := range []int{0, 1, mostAdded, bad} {
				check(bad, good, base)
				check(good, bad, base)
			}
		}
	}
	for _, base := range otherBases() {
		for _, n := range []int{0, 1, 17, mostAdded} {
			check(n, n, base)
			check(n, 0, base)
			check(0, n, base)
		}
	}
}

// Promise 9: what is under may be taken away without loss.

func TestUnderOkKnown(t *testing.T) {
	known := []struct {
		a, b, base int
		want       bool
	}{
		{0, 0, 2, true}, {1, 0, 2, false}, {0, 1, 2, true}, {5, 13, 2, true}, {2, 13, 2, false}, {13, 5, 2, false}, {16, 13, 2, false}, {4, 13, 2, true},
		{302, 312, 10, true}, {302, 402, 10, true}, {302, 292, 10, false}, {2, 12, 10, true}, {3, 12, 10, false}, {100, 99, 10, false}, {19, 20, 10, false},
		{15, 31, 16, true}, {16, 15, 16, false}, {999999999, 999999999, 10, true}, {999999998, 999999999, 10, true}, {123456789, 999999999, 10, true},
		{536870911, 536870911, 2, true}, {536870912, 536870911, 2, false}, {536870911, 536870912, 2, false}, {999999999, 0, 10, false},
	}
	for _, k := range known {
		if got := impl.UnderOk(k.a, k.b, k.base); got != k.want {
			t.Errorf("UnderOk(%d, %d, %d) = %v, want %v", k.a, k.b, k.base, got, k.want)
		}
	}
}

// checkUnder holds whether a number is under another one against the digits of both, and against what is lost when it is taken away.
func checkUnder(t *testing.T, a, b, base int) {
	t.Helper()
	got := impl.UnderOk(a, b, base)
	if want := a <= b && impl.SumOfDigits(a, base)+impl.SumOfDigits(b-a, base) == impl.SumOfDigits(b, base); got != want {
		t.Errorf("UnderOk(%d, %d, %d) = %v, but it may be taken away without loss: %v", a, b, base, got, want)
	}
	if want := writtenUnder(a, b, base); got != want {
		t.Errorf("UnderOk(%d, %d, %d) = %v, want %v", a, b, base, got, want)
	}
}

func TestUnderOkMayBeTakenAway(t *testing.T) {
	for _, base := range bases() {
		for a := range 90 {
			for b := range 90 {
				checkUnder(t, a, b, base)
			}
		}
		numbers := numbersFor(base, impl.MaxNumber)
		for _, a := range numbers {
			for _, b := range numbers {
				checkUnder(t, a, b, base)
			}
		}
	}
}

func TestUnderOkItselfAndNone(t *testing.T) {
	for _, base := range bases() {
		for _, n := range numbersFor(base, impl.MaxNumber) {
			if !impl.UnderOk(n, n, base) {
				t.Errorf("UnderOk(%d, %d, %d) = false, want true", n, n, base)
			}
			if !impl.UnderOk(0, n, base) {
				t.Errorf("UnderOk(0, %d, %d) = false, want true", n, base)
			}
			if n > 0 && impl.UnderOk(n, 0, base) {
				t.Errorf("UnderOk(%d, 0, %d) = true, want false", n, base)
			}
		}
	}
}

func TestUnderOkOthers(t *testing.T) {
	check := func(a, b, base int) {
		t.Helper()
		if impl.UnderOk(a, b, base) {
			t.Errorf("UnderOk(%d, %d, %d) = true, want false", a, b, base)
		}
	}
	for _, bad := range outside(impl.MaxNumber) {
		for _, base := range append(bases(), otherBases()...) {
			for _, good := range []int{0, 1, impl.MaxNumber, bad} {
				check(bad, good, base)
				check(good, bad, base)
			}
		}
	}
	for _, base := range otherBases() {
		for _, n := range []int{0, 1, 17, impl.MaxNumber} {
			check(n, n, base)
			check(0, n, base)
		}
	}
}

// Promise 10: numbers under a number are counted.

func TestCountUnderKnownCounts(t *testing.T) {
	known := []struct{ n, base, want int }{
		{0, 2, 1}, {0, 16, 1}, {1, 2, 2}, {13, 2, 8}, {7, 3, 6}, {15, 16, 16}, {16, 16, 2}, {302, 10, 12}, {1000, 10, 2},
		{999999999, 10, 1000000000}, {999999998, 10, 900000000}, {536870911, 2, 536870912}, {536870912, 2, 2}, {268435455, 16, 268435456},
	}
	for _, k := range known {
		if got := impl.CountUnder(k.n, k.base); got != k.want {
			t.Errorf("CountUnder(%d, %d) = %d, want %d", k.n, k.base, got, k.want)
		}
	}
}

func TestCountUnderIsCounted(t *testing.T) {
	for _, base := range bases() {
		for n := range 401 {
			under, written := 0, 0
			for a := range n + 1 {
				if impl.UnderOk(a, n, base) {
					under++
				}
				if writtenUnder(a, n, base) {
					written++
				}
			}
			if got := impl.CountUnder(n, base); got != under || got != written {
				t.Errorf("CountUnder(%d, %d) = %d, but %d are UnderOk it, and %d by their digits", n, base, got, under, written)
			}
		}
	}
}

func TestCountUnderGreatNumbers(t *testing.T) {
	for _, base := range bases() {
		for _, n := range numbersFor(base, impl.MaxNumber) {
			want := 1
			for _, digit := range writtenDigits(n, base) {
				want *= digit + 1
			}
			if got := impl.CountUnder(n, base); got != want {
				t.Errorf("CountUnder(%d, %d) = %d, want %d", n, base, got, want)
			}
		}
		nines := onesLess(base, impl.MaxNumber)
		if got := impl.CountUnder(nines, base); got != nines+1 {
			t.Errorf("CountUnder(%d, %d) = %d, want all %d", nines, base, got, nines+1)
		}
	}
}

func TestCountUnderOthers(t *testing.T) {
	for _, n := range outside(impl.MaxNumber) {
		for _, base := range append(bases(), otherBases()...) {
			if got := impl.CountUnder(n, base); got != -1 {
				t.Errorf("CountUnder(%d, %d) = %d, want -1", n, base, got)
			}
		}
	}
	for _, base := range append(otherBases(), -math.MaxInt) {
		for _, n := range []int{0, 1, 7, impl.MaxNumber} {
			if got := impl.CountUnder(n, base); got != -1 {
				t.Errorf("CountUnder(%d, %d) = %d, want -1", n, base, got)
			}
		}
	}
}
