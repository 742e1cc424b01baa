package tests

import (
	"math"
	"math/big"
	"slices"
	"strings"
	"testing"

	"loop.example/carrytriangles/impl"
)

// mostDivided is the greatest number that TimesIn divides, mostPlaced the greatest row of TimesInCell, and mostLooked that of MostIn.
const (
	mostDivided = 1000000000000000000
	mostPlaced  = mostAdded
	mostLooked  = 300
)

// primes returns all primes up to the greatest base.
func primes() []int {
	return []int{2, 3, 5, 7, 11, 13}
}

// noPrimes returns numbers that are no primes, or too great ones.
func noPrimes() []int {
	return append(outside(impl.MaxBase), 0, 1, 4, 6, 8, 9, 10, 12, 14, 15, 16, 17, 19, 23, 25, 101, -3, -5, -7, -11, -13, math.MaxInt32)
}

// noughtsBehind counts the noughts at the end of a number, as the library writes it in the base of a prime: so often the prime divides it.
func noughtsBehind(n *big.Int, p int) int {
	written := n.Text(p)
	return len(written) - len(strings.TrimRight(written, "0"))
}

func timesByNoughts(n, p int) int {
	return noughtsBehind(big.NewInt(int64(n)), p)
}

// powersUpTo returns the powers of a prime, from 1 on, up to a greatest number.
func powersUpTo(p, most int) []int {
	powers := []int{1}
	for power := 1; power <= most/p; {
		power *= p
		powers = append(powers, power)
	}
	return powers
}

// dividedNumbers returns numbers up to a greatest one, in 1..mostDivided, that a prime divides now and then: the first ones, those around its powers, and the last ones.
func dividedNumbers(p, most int) []int {
	numbers := numbersFor(p, most)
	for _, power := range powersUpTo(p, most) {
		for times := range 17 {
			if times > 0 && power <= most/times {
				numbers = append(numbers, times*power)
			}
		}
	}
	slices.Sort(numbers)
	numbers = slices.Compact(numbers)
	if numbers[0] == 0 {
		return numbers[1:]
	}
	return numbers
}

// Promise 11: six bases are primes.

func TestPrimeOkOfSix(t *testing.T) {
	for p := -100; p <= 1000; p++ {
		if got, want := impl.PrimeOk(p), slices.Contains(primes(), p); got != want {
			t.Errorf("PrimeOk(%d) = %v, want %v", p, got, want)
		}
	}
}

func TestPrimeOkHasNoDivisor(t *testing.T) {
	for p := 2; p <= impl.MaxBase; p++ {
		if got, want := impl.PrimeOk(p), big.NewInt(int64(p)).ProbablyPrime(0); got != want {
			t.Errorf("PrimeOk(%d) = %v, want %v", p, got, want)
		}
	}
}

func TestPrimeOkOthers(t *testing.T) {
	for _, p := range append(noPrimes(), mostDivided, -mostDivided, 999999937, math.MaxInt-1) {
		if impl.PrimeOk(p) {
			t.Errorf("PrimeOk(%d) = true, want false", p)
		}
	}
}

// Promise 12: times the prime it is once more.

func TestTimesInKnownTimes(t *testing.T) {
	known := []struct{ n, p, want int }{
		{1, 2, 0}, {1, 13, 0}, {2, 2, 1}, {3, 2, 0}, {48, 2, 4}, {48, 3, 1}, {48, 5, 0}, {13, 13, 1}, {169, 13, 2}, {30030, 11, 1}, {7, 7, 1}, {360, 3, 2},
		{1000000000000000000, 2, 18}, {1000000000000000000, 5, 18}, {1000000000000000000, 3, 0}, {1000000000000000000, 7, 0}, {999999999999999999, 3, 4},
		{999999999999999999, 2, 0}, {576460752303423488, 2, 59}, {576460752303423487, 2, 0}, {864691128455135232, 2, 58}, {150094635296999121, 3, 36},
		{450283905890997363, 3, 37}, {931322574615478515, 5, 1}, {232630513987207, 7, 17}, {1628413597910449, 7, 18}, {505447028499293771, 11, 17}, {665416609183179841, 13, 16},
	}
	for _, k := range known {
		if got := impl.TimesIn(k.n, k.p); got != k.want {
			t.Errorf("TimesIn(%d, %d) = %d, want %d", k.n, k.p, got, k.want)
		}
	}
}

func TestTimesInIsNoughtsBehind(t *testing.T) {
	for _, p := range primes() {
		for n := 1; n <= 3000; n++ {
			if got, want := impl.TimesIn(n, p), timesByNoughts(n, p); got != want {
				t.Errorf("TimesIn(%d, %d) = %d, want %d", n, p, got, want)
			}
		}
		for _, n := range dividedNumbers(p, mostDivided) {
			if got, want := impl.TimesIn(n, p), timesByNoughts(n, p); got != want {
				t.Errorf("TimesIn(%d, %d) = %d, want %d", n, p, got, want)
			}
		}
	}
}

func TestTimesInPowers(t *testing.T) {
	for _, p := range primes() {
		for times, power := range powersUpTo(p, mostDivided) {
			if got := impl.TimesIn(power, p); got != times {
				t.Errorf("TimesIn(%d, %d) = %d, want %d", power, p, got, times)
			}
			for _, other := range primes() {
				if got := impl.TimesIn(power, other); other != p && got != 0 {
					t.Errorf("TimesIn(%d, %d) = %d, want 0", power, other, got)
				}
			}
		}
	}
}

func TestTimesInOnceMore(t *testing.T) {
	for _, p := range primes() {
		for _, n := range dividedNumbers(p, mostDivided) {
			once := impl.TimesIn(n, p)
			if n <= mostDivided/p {
				if got := impl.TimesIn(n*p, p); got != once+1 {
					t.Errorf("TimesIn(%d, %d) = %d, want one more than the %d of %d", n*p, p, got, once, n)
				}
			}
			for times := 2; times <= 9 && n <= mostDivided/times; times++ {
				if got, want := impl.TimesIn(n*times, p), once+impl.TimesIn(times, p); got != want {
					t.Errorf("TimesIn(%d, %d) = %d, want %d", n*times, p, got, want)
				}
			}
		}
	}
}

func TestTimesInOthers(t *testing.T) {
	check := func(n, p int) {
		t.Helper()
		if got := impl.TimesIn(n, p); got != -1 {
			t.Errorf("TimesIn(%d, %d) = %d, want -1", n, p, got)
		}
	}
	for _, n := range append(outside(mostDivided), 0, -16, math.MinInt+1, math.MaxInt-1) {
		for _, p := range append(primes(), noPrimes()...) {
			check(n, p)
		}
	}
	for _, p := range noPrimes() {
		for _, n := range []int{1, 2, 16, 36, 17 * 17, mostDivided} {
			check(n, p)
		}
	}
}

// Promise 13: digits tell how often.

func TestTimesInAllKnownTimes(t *testing.T) {
	known := []struct{ n, p, want int }{
		{0, 2, 0}, {0, 13, 0}, {1, 2, 0}, {2, 2, 1}, {4, 2, 3}, {7, 2, 4}, {8, 2, 7}, {10, 2, 8}, {10, 3, 4}, {10, 5, 2}, {10, 7, 1}, {10, 11, 0}, {11, 11, 1},
		{12, 13, 0}, {13, 13, 1}, {169, 13, 14}, {100, 5, 24}, {124, 5, 28}, {125, 5, 31}, {1000, 5, 249},
		{999999999, 5, 249999989}, {999999999, 2, 999999978}, {999999999, 13, 83333329}, {536870912, 2, 536870911}, {536870911, 2, 536870882},
	}
	for _, k := range known {
		if got := impl.TimesInAll(k.n, k.p); got != k.want {
			t.Errorf("TimesInAll(%d, %d) = %d, want %d", k.n, k.p, got, k.want)
		}
	}
}

func TestTimesInAllIsInTheProduct(t *testing.T) {
	for _, p := range primes() {
		product := big.NewInt(1)
		for n := range 401 {
			if n > 0 {
				product.Mul(product, big.NewInt(int64(n)))
			}
			if got, want := impl.TimesInAll(n, p), noughtsBehind(product, p); got != want {
				t.Errorf("TimesInAll(%d, %d) = %d, want %d", n, p, got, want)
			}
		}
	}
}

func TestTimesInAllIsToldByDigits(t *testing.T) {
	for _, p := range primes() {
		numbers := append(dividedNumbers(p, impl.MaxNumber), 0)
		for _, n := range numbers {
			got := impl.TimesInAll(n, p)
			if want := n - impl.SumOfDigits(n, p); got*(p-1) != want {
				t.Errorf("TimesInAll(%d, %d) = %d, but the number less its digits is %d", n, p, got, want)
			}
			if want := n - writtenSum(n, p); got*(p-1) != want {
				t.Errorf("TimesInAll(%d, %d) = %d, but the number less its written digits is %d", n, p, got, want)
			}
			if n == impl.MaxNumber {
				continue
			}
			if next, want := impl.TimesInAll(n+1, p), got+impl.TimesIn(n+1, p); next != want {
				t.Errorf("TimesInAll(%d, %d) = %d, want %d", n+1, p, next, want)
			}
		}
	}
}

func TestTimesInAllUpToPowers(t *testing.T) {
	for _, p := range primes() {
		for _, power := range powersUpTo(p, impl.MaxNumber) {
			if got, want := impl.TimesInAll(power, p), (power-1)/(p-1); got != want {
				t.Errorf("TimesInAll(%d, %d) = %d, want %d", power, p, got, want)
			}
		}
	}
}

func TestTimesInAllOthers(t *testing.T) {
	check := func(n, p int) {
		t.Helper()
		if got := impl.TimesInAll(n, p); got != -1 {
			t.Errorf("TimesInAll(%d, %d) = %d, want -1", n, p, got)
		}
	}
	for _, n := range outside(impl.MaxNumber) {
		for _, p := range append(primes(), noPrimes()...) {
			check(n, p)
		}
	}
	for _, p := range noPrimes() {
		for _, n := range []int{0, 1, 10, 17, 100, impl.MaxNumber} {
			check(n, p)
		}
	}
}

// Promise 14: carries tell how often.

func TestTimesInCellKnownTimes(t *testing.T) {
	known := []struct{ row, place, p, want int }{
		{0, 0, 2, 0}, {0, 0, 13, 0}, {1, 0, 2, 0}, {1, 1, 2, 0}, {2, 1, 2, 1}, {4, 1, 2, 2}, {4, 2, 2, 1}, {8, 3, 2, 3}, {8, 4, 2, 1}, {13, 5, 2, 0}, {13, 5, 3, 2}, {13, 5, 11, 1},
		{13, 5, 13, 1}, {10, 5, 2, 2}, {10, 5, 3, 2}, {10, 5, 7, 1}, {10, 5, 5, 0}, {9, 1, 3, 2}, {9, 3, 3, 1}, {8, 4, 3, 0}, {25, 5, 5, 1}, {25, 1, 5, 2}, {24, 12, 5, 0},
		{268435456, 1, 2, 28}, {268435456, 134217728, 2, 1}, {268435455, 1, 2, 0}, {499999999, 0, 2, 0}, {499999999, 499999999, 2, 0}, {499999999, 1, 2, 0},
		{499999999, 2, 7, 0}, {499999999, 249999999, 2, 12}, {244140625, 1, 5, 12}, {244140625, 244140624, 5, 12}, {62748517, 1, 13, 7}, {62748517, 4826809, 13, 1},
	}
	for _, k := range known {
		if got := impl.TimesInCell(k.row, k.place, k.p); got != k.want {
			t.Errorf("TimesInCell(%d, %d, %d) = %d, want %d", k.row, k.place, k.p, got, k.want)
		}
	}
}

// checkTimesInCell holds how often a prime divides a cell against carries, and against digits.
func checkTimesInCell(t *testing.T, row, place, p int) {
	t.Helper()
	got := impl.TimesInCell(row, place, p)
	if want := impl.CarriesOf(place, row-place, p); got != want {
		t.Errorf("TimesInCell(%d, %d, %d) = %d, but there are %d carries", row, place, p, got, want)
	}
	if want := carriesByRests(place, row-place, p); got != want {
		t.Errorf("TimesInCell(%d, %d, %d) = %d, want %d", row, place, p, got, want)
	}
	if under := impl.UnderOk(place, row, p); (got == 0) != under {
		t.Errorf("TimesInCell(%d, %d, %d) = %d, but the place is under the row: %v", row, place, p, got, under)
	}
	if other := impl.TimesInCell(row, row-place, p); got != other {
		t.Errorf("TimesInCell(%d, %d, %d) = %d, but %d from the other end", row, place, p, got, other)
	}
}

func TestTimesInCellIsInTheCell(t *testing.T) {
	for _, p := range primes() {
		for row := range impl.MaxRow + 1 {
			for place := range row + 1 {
				checkTimesInCell(t, row, place, p)
				if got, want := impl.TimesInCell(row, place, p), impl.TimesIn(impl.CellOf(row, place), p); got != want {
					t.Errorf("TimesInCell(%d, %d, %d) = %d, but it is %d in the cell", row, place, p, got, want)
				}
			}
		}
		for row := impl.MaxRow + 1; row <= 130; row++ {
			for place := range row + 1 {
				cell := new(big.Int).Binomial(int64(row), int64(place))
				if got, want := impl.TimesInCell(row, place, p), noughtsBehind(cell, p); got != want {
					t.Errorf("TimesInCell(%d, %d, %d) = %d, want %d", row, place, p, got, want)
				}
			}
		}
	}
}

func TestTimesInCellIsToldByCarries(t *testing.T) {
	for _, p := range primes() {
		numbers := numbersFor(p, mostPlaced)
		for _, row := range numbers {
			for _, place := range numbers {
				if place <= row {
					checkTimesInCell(t, row, place, p)
				}
			}
		}
	}
}

func TestTimesInCellOfPowers(t *testing.T) {
	for _, p := range primes() {
		for times, power := range powersUpTo(p, mostPlaced) {
			for _, place := range numbersFor(p, power) {
				want := 0
				if place > 0 && place < power {
					want = times - timesByNoughts(place, p)
				}
				if got := impl.TimesInCell(power, place, p); got != want {
					t.Errorf("TimesInCell(%d, %d, %d) = %d, want %d", power, place, p, got, want)
				}
				if place == power {
					continue
				}
				if got := impl.TimesInCell(power-1, place, p); got != 0 {
					t.Errorf("TimesInCell(%d, %d, %d) = %d, want 0", power-1, place, p, got)
				}
			}
		}
	}
}

func TestTimesInCellAtTheEnds(t *testing.T) {
	for _, p := range primes() {
		for _, row := range numbersFor(p, mostPlaced) {
			if got := impl.TimesInCell(row, 0, p); got != 0 {
				t.Errorf("TimesInCell(%d, 0, %d) = %d, want 0", row, p, got)
			}
			if got := impl.TimesInCell(row, row, p); got != 0 {
				t.Errorf("TimesInCell(%d, %d, %d) = %d, want 0", row, row, p, got)
			}
			if row == 0 {
				continue
			}
			if got, want := impl.TimesInCell(row, 1, p), timesByNoughts(row, p); got != want {
				t.Errorf("TimesInCell(%d, 1, %d) = %d, want %d", row, p, got, want)
			}
		}
	}
}

func TestTimesInCellOthers(t *testing.T) {
	check := func(row, place, p int) {
		t.Helper()
		if got := impl.TimesInCell(row, place, p); got != -1 {
			t.Errorf("TimesInCell(%d, %d, %d) = %d, want -1", row, place, p, got)
		}
	}
	for _, p := range append(primes(), noPrimes()...) {
		for _, row := range append(outside(mostPlaced), impl.MaxNumber, impl.MaxNumber+1) {
			for _, place := range []int{0, 1, row / 2, row - 1, row, mostPlaced, -1} {
				check(row, place, p)
			}
		}
		for _, row := range []int{0, 1, 4, 8, 9, 60, 268435456, mostPlaced} {
			for _, place := range outside(row) {
				check(row, place, p)
			}
		}
	}
	for _, p := range noPrimes() {
		for _, row := range []int{0, 1, 8, 17, 100, mostPlaced} {
			for _, place := range []int{0, row / 2, row} {
				check(row, place, p)
			}
		}
	}
}

// Promise 15: no prime power in a cell is greater than the row.

func TestMostInKnown(t *testing.T) {
	known := []struct{ row, p, want int }{
		{1, 2, 0}, {1, 3, 0}, {1, 13, 0}, {2, 2, 1}, {3, 2, 0}, {4, 2, 2}, {5, 2, 1}, {6, 2, 2}, {7, 2, 0}, {8, 2, 3}, {8, 3, 0}, {9, 3, 2}, {10, 2, 3}, {10, 3, 2}, {10, 5, 1}, {12, 13, 0},
		{13, 13, 1}, {168, 13, 0}, {169, 13, 2}, {170, 13, 2}, {255, 2, 0}, {256, 2, 8}, {243, 3, 5}, {125, 5, 3}, {121, 11, 2}, {300, 2, 8}, {300, 3, 5}, {300, 7, 1}, {300, 11, 2}, {300, 13, 2},
	}
	for _, k := range known {
		if got := impl.MostIn(k.row, k.p); got != k.want {
			t.Errorf("MostIn(%d, %d) = %d, want %d", k.row, k.p, got, k.want)
		}
	}
}

func TestMostInIsTheMost(t *testing.T) {
	for row := 1; row <= mostLooked; row++ {
		for _, p := range primes() {
			most := 0
			for place := range row + 1 {
				most = max(most, impl.TimesInCell(row, place, p), carriesByRests(place, row-place, p))
			}
			got := impl.MostIn(row, p)
			if got != most {
				t.Errorf("MostIn(%d, %d) = %d, want %d", row, p, got, most)
			}
			if power := math.Pow(float64(p), float64(got)); power > float64(row) {
				t.Errorf("MostIn(%d, %d) = %d, but the power %v is greater than the row", row, p, got, power)
			}
		}
	}
}

func TestMostInOfPowers(t *testing.T) {
	for _, p := range primes() {
		for times, power := range powersUpTo(p, mostLooked) {
			if got := impl.MostIn(power, p); got != times {
				t.Errorf("MostIn(%d, %d) = %d, want %d", power, p, got, times)
			}
			if power == 1 {
				continue
			}
			if got := impl.MostIn(power-1, p); got != 0 {
				t.Errorf("MostIn(%d, %d) = %d, want 0", power-1, p, got)
			}
		}
	}
}

func TestMostInOthers(t *testing.T) {
	check := func(row, p int) {
		t.Helper()
		if got := impl.MostIn(row, p); got != -1 {
			t.Errorf("MostIn(%d, %d) = %d, want -1", row, p, got)
		}
	}
	for _, row := range append(outside(mostLooked), 0, 499999999, 500000000) {
		for _, p := range append(primes(), noPrimes()...) {
			check(row, p)
		}
	}
	for _, p := range noPrimes() {
		for _, row := range []int{1, 2, 8, 17, 60, mostLooked} {
			check(row, p)
		}
	}
}
