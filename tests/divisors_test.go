package tests

import (
	"math"
	"math/big"
	"slices"
	"testing"

	"loop.example/carrytriangles/impl"
)

// mostOfAll is the greatest number of LeastOfAll, mostStar the greatest row of StarOf, and mostTriple that of TripleOf.
const (
	mostOfAll  = 37
	mostStar   = 30
	mostTriple = 20
)

// primeOfPower returns the prime of which a number is a power, and 1 if it is a power of none.
func primeOfPower(n int) int {
	for p := 2; p <= n; p++ {
		if n%p != 0 {
			continue
		}
		for n%p == 0 {
			n /= p
		}
		if n == 1 {
			return p
		}
		return 1
	}
	return 1
}

// bigShared returns the greatest common divisor of numbers, as math/big tells it.
func bigShared(numbers ...*big.Int) int {
	shared := new(big.Int)
	for _, n := range numbers {
		shared.GCD(nil, nil, shared, n)
	}
	return int(shared.Int64())
}

// leastByPowers returns the least number that numbers divide: each prime as often as in the number that it divides most often.
func leastByPowers(numbers []int) int {
	least := 1
	for p := 2; p <= mostOfAll; p++ {
		if !isPrime(p) {
			continue
		}
		most := 1
		for _, n := range numbers {
			power := 1
			for n%p == 0 {
				n /= p
				power *= p
			}
			most = max(most, power)
		}
		least *= most
	}
	return least
}

// dividedByAll reports whether all numbers divide a number.
func dividedByAll(n int, numbers []int) bool {
	for _, by := range numbers {
		if n%by != 0 {
			return false
		}
	}
	return true
}

// checkLeast holds that all numbers divide a number, and that they do not divide it without one of its primes: so none less is divided by all.
func checkLeast(t *testing.T, least int, numbers []int) {
	t.Helper()
	if least < 1 || !dividedByAll(least, numbers) {
		t.Errorf("%d is not divided by all of %v", least, numbers)
		return
	}
	rest := least
	for p := 2; p <= mostOfAll; p++ {
		if rest%p != 0 {
			continue
		}
		if dividedByAll(least/p, numbers) {
			t.Errorf("%d is not the least: %d is divided by all of %v", least, least/p, numbers)
		}
		for rest%p == 0 {
			rest /= p
		}
	}
	if rest != 1 {
		t.Errorf("%d has the divisor %d, which none of %v has", least, rest, numbers)
	}
}

// rowByFactors returns a row of the triangle without sums.
func rowByFactors(row int) []int {
	var cells []int
	for place := range row + 1 {
		cells = append(cells, cellByFactors(row, place))
	}
	return cells
}

// upTo returns the numbers from 1 up to a number.
func upTo(n int) []int {
	var numbers []int
	for number := 1; number <= n; number++ {
		numbers = append(numbers, number)
	}
	return numbers
}

// starByFactors returns the six cells around one without sums.
func starByFactors(row, place int) []int {
	return []int{
		cellByFactors(row-1, place-1), cellByFactors(row-1, place), cellByFactors(row, place+1),
		cellByFactors(row+1, place+1), cellByFactors(row+1, place), cellByFactors(row, place-1),
	}
}

// Promise 32: rows of prime powers share the prime.

func TestGreatestSharedRow(t *testing.T) {
	if impl.MaxShared != 36 {
		t.Errorf("MaxShared = %d, want 36", impl.MaxShared)
	}
}

func TestSharedOfKnown(t *testing.T) {
	known := map[int]int{2: 2, 3: 3, 4: 2, 5: 5, 6: 1, 7: 7, 8: 2, 9: 3, 10: 1, 12: 1, 15: 1, 16: 2, 25: 5, 27: 3, 30: 1, 32: 2, 35: 1, 36: 1, 37: 37, 49: 7, 53: 53, 58: 1, 59: 59, 60: 1}
	for row, want := range known {
		if got := impl.SharedOf(row); got != want {
			t.Errorf("SharedOf(%d) = %d, want %d", row, got, want)
		}
	}
}

func TestSharedOfIsThePrime(t *testing.T) {
	for row := 2; row <= impl.MaxRow; row++ {
		got := impl.SharedOf(row)
		if want := primeOfPower(row); got != want {
			t.Errorf("SharedOf(%d) = %d, want %d", row, got, want)
		}
		var between []*big.Int
		for place := 1; place < row; place++ {
			between = append(between, bigCell(row, place))
		}
		if want := bigShared(between...); got != want {
			t.Errorf("SharedOf(%d) = %d, but the cells between have %d in common", row, got, want)
		}
	}
}

func TestSharedOfOthers(t *testing.T) {
	for _, row := range append(outside(impl.MaxRow), 0, 1, -3, -4, -5, 64, 67, 81, 121, math.MinInt+1, math.MaxInt-1) {
		if got := impl.SharedOf(row); got != -1 {
			t.Errorf("SharedOf(%d) = %d, want -1", row, got)
		}
	}
}

// Promise 33: rows are told by all numbers up to them.

func TestLeastOverKnown(t *testing.T) {
	known := map[int]int{0: 1, 1: 1, 2: 2, 3: 3, 4: 12, 5: 10, 6: 60, 7: 105, 8: 280, 10: 2520, 24: 1070845776, 25: 1029659400, 34: 4125815796960, 35: 4011209802600, 36: 144403552893600}
	for row, want := range known {
		if got := impl.LeastOver(row); got != want {
			t.Errorf("LeastOver(%d) = %d, want %d", row, got, want)
		}
	}
}

func TestLeastOverIsToldByAllNumbers(t *testing.T) {
	for row := range impl.MaxShared + 1 {
		got := impl.LeastOver(row)
		if want := impl.LeastOfAll(row + 1); got*(row+1) != want {
			t.Errorf("LeastOver(%d) = %d, which is %d times one more than the row, want %d", row, got, got*(row+1), want)
		}
		if want := leastByPowers(upTo(row + 1)); got*(row+1) != want {
			t.Errorf("LeastOver(%d) = %d, which is %d times one more than the row, but all numbers need %d", row, got, got*(row+1), want)
		}
	}
}

func TestLeastOverIsTheLeast(t *testing.T) {
	for row := range impl.MaxShared + 1 {
		checkLeast(t, impl.LeastOver(row), rowByFactors(row))
	}
}

func TestLeastOverOthers(t *testing.T) {
	for _, row := range append(outside(impl.MaxShared), 39, 40, impl.MaxRow, impl.MaxRow+1, math.MinInt+1, math.MaxInt-1) {
		if got := impl.LeastOver(row); got != -1 {
			t.Errorf("LeastOver(%d) = %d, want -1", row, got)
		}
	}
}

// Promise 34: prime powers make it greater.

func TestLeastOfAllKnown(t *testing.T) {
	known := map[int]int{1: 1, 2: 2, 3: 6, 4: 12, 5: 60, 6: 60, 7: 420, 8: 840, 9: 2520, 10: 2520, 16: 720720, 20: 232792560, 24: 5354228880, 25: 26771144400, 26: 26771144400, 27: 80313433200, 31: 72201776446800, 32: 144403552893600, 36: 144403552893600, 37: 5342931457063200}
	for n, want := range known {
		if got := impl.LeastOfAll(n); got != want {
			t.Errorf("LeastOfAll(%d) = %d, want %d", n, got, want)
		}
	}
}

func TestLeastOfAllGrowsByPrimePowers(t *testing.T) {
	for n := 1; n < mostOfAll; n++ {
		got, next := impl.LeastOfAll(n), impl.LeastOfAll(n+1)
		if want := got * primeOfPower(n+1); next != want {
			t.Errorf("LeastOfAll(%d) = %d, want %d, as LeastOfAll(%d) is %d", n+1, next, want, n, got)
		}
	}
}

func TestLeastOfAllIsTheLeast(t *testing.T) {
	for n := 1; n <= mostOfAll; n++ {
		checkLeast(t, impl.LeastOfAll(n), upTo(n))
	}
}

func TestLeastOfAllOthers(t *testing.T) {
	for _, n := range append(outside(mostOfAll), 0, 40, 41, 42, 43, impl.MaxRow, math.MinInt+1, math.MaxInt-1) {
		if got := impl.LeastOfAll(n); got != -1 {
			t.Errorf("LeastOfAll(%d) = %d, want -1", n, got)
		}
	}
}

// Promise 35: six cells around one.

func TestStarOfKnown(t *testing.T) {
	known := []struct {
		row, place int
		want       []int
	}{
		{2, 1, []int{1, 1, 1, 3, 3, 1}}, {3, 1, []int{1, 2, 3, 6, 4, 1}}, {3, 2, []int{2, 1, 1, 4, 6, 3}}, {4, 2, []int{3, 3, 4, 10, 10, 4}}, {5, 2, []int{4, 6, 10, 20, 15, 5}}, {6, 3, []int{10, 10, 15, 35, 35, 15}},
		{30, 1, []int{1, 29, 435, 465, 31, 1}}, {30, 2, []int{29, 406, 4060, 4495, 465, 30}}, {30, 15, []int{77558760, 77558760, 145422675, 300540195, 300540195, 145422675}}, {30, 29, []int{29, 1, 1, 31, 465, 435}},
	}
	for _, k := range known {
		if got := impl.StarOf(k.row, k.place); !slices.Equal(got, k.want) {
			t.Errorf("StarOf(%d, %d) = %v, want %v", k.row, k.place, got, k.want)
		}
	}
}

func TestStarOfStandsAroundTheCell(t *testing.T) {
	for row := 2; row <= mostStar; row++ {
		for place := 1; place < row; place++ {
			star := impl.StarOf(row, place)
			if want := starByFactors(row, place); !slices.Equal(star, want) {
				t.Fatalf("StarOf(%d, %d) = %v, want %v", row, place, star, want)
			}
			cell := impl.CellOf(row, place)
			if got := star[0] + star[1]; got != cell {
				t.Errorf("StarOf(%d, %d): the first and the second are together %d, want %d", row, place, got, cell)
			}
			if got := cell + star[5]; got != star[4] {
				t.Errorf("StarOf(%d, %d): the fifth is %d, but the cell and the sixth together are %d", row, place, star[4], got)
			}
			if got := cell + star[2]; got != star[3] {
				t.Errorf("StarOf(%d, %d): the fourth is %d, but the cell and the third together are %d", row, place, star[3], got)
			}
		}
	}
}

func TestStarOfOthers(t *testing.T) {
	check := func(row, place int) {
		t.Helper()
		if got := impl.StarOf(row, place); len(got) != 0 {
			t.Errorf("StarOf(%d, %d) = %v, want nothing", row, place, got)
		}
	}
	for _, row := range append(outside(mostStar), 0, 1, impl.MaxRow-1, impl.MaxRow, math.MinInt+1, math.MaxInt-1) {
		for _, place := range []int{0, 1, 2, 15, 29, 30, -1, row - 1, row, math.MinInt, math.MaxInt} {
			check(row, place)
		}
	}
	for row := 2; row <= mostStar; row++ {
		for _, place := range append(outside(row-1), 0, row, mostStar, mostStar+1) {
			if place < 1 || place >= row {
				check(row, place)
			}
		}
	}
}

func TestStarOfIsNewMemory(t *testing.T) {
	for _, at := range [][2]int{{2, 1}, {5, 2}, {mostStar, 1}, {mostStar, 29}} {
		row, place := at[0], at[1]
		want := impl.StarOf(row, place)
		spoilt := impl.StarOf(row, place)
		spoilt = spoilt[:cap(spoilt)]
		for i := range spoilt {
			spoilt[i] = -7
		}
		if slices.Contains(want, -7) {
			t.Errorf("StarOf(%d, %d): two results share memory", row, place)
		}
		if got := impl.StarOf(row, place); !slices.Equal(got, want) {
			t.Errorf("StarOf(%d, %d) = %v after a result was written to, want %v", row, place, got, want)
		}
	}
}

// Promise 36: both triples are alike.

func TestTripleOfKnown(t *testing.T) {
	known := []struct{ row, place, product, shared int }{
		{2, 1, 3, 1}, {3, 1, 12, 1}, {3, 2, 12, 1}, {4, 2, 120, 1}, {5, 2, 600, 1}, {6, 3, 5250, 5}, {8, 4, 246960, 7}, {9, 3, 423360, 2}, {10, 5, 12224520, 42}, {14, 7, 33160507380, 429}, {16, 8, 1789614684000, 715},
		{20, 1, 3990, 1}, {20, 2, 4548600, 1}, {20, 9, 4104505533688560, 8398}, {20, 10, 5472674044918080, 8398}, {20, 18, 4548600, 1}, {20, 19, 3990, 1},
	}
	for _, k := range known {
		for which := range 2 {
			if product, shared, ok := impl.TripleOf(k.row, k.place, which); product != k.product || shared != k.shared || !ok {
				t.Errorf("TripleOf(%d, %d, %d) = %d, %d, %v, want %d, %d, true", k.row, k.place, which, product, shared, ok, k.product, k.shared)
			}
		}
	}
}

func TestTripleOfIsAlikeForBoth(t *testing.T) {
	for row := 2; row <= mostTriple; row++ {
		for place := 1; place < row; place++ {
			product, shared, ok := impl.TripleOf(row, place, 0)
			otherProduct, otherShared, otherOk := impl.TripleOf(row, place, 1)
			if product != otherProduct || shared != otherShared || !ok || !otherOk {
				t.Errorf("TripleOf(%d, %d, ..) = %d, %d, %v for 0, but %d, %d, %v for 1", row, place, product, shared, ok, otherProduct, otherShared, otherOk)
			}
		}
	}
}

func TestTripleOfTakesEverySecondCell(t *testing.T) {
	for row := 2; row <= mostTriple; row++ {
		for place := 1; place < row; place++ {
			star := starByFactors(row, place)
			for which := range 2 {
				first, second, third := big.NewInt(int64(star[which])), big.NewInt(int64(star[which+2])), big.NewInt(int64(star[which+4]))
				want := new(big.Int).Mul(first, second)
				want.Mul(want, third)
				product, shared, ok := impl.TripleOf(row, place, which)
				if big.NewInt(int64(product)).Cmp(want) != 0 || !ok {
					t.Errorf("TripleOf(%d, %d, %d) has the product %d, %v, want %v, true", row, place, which, product, ok, want)
				}
				if common := bigShared(first, second, third); shared != common {
					t.Errorf("TripleOf(%d, %d, %d) has the divisor %d, want %d", row, place, which, shared, common)
				}
			}
		}
	}
}

func TestTripleOfOthers(t *testing.T) {
	check := func(row, place, which int) {
		t.Helper()
		if product, shared, ok := impl.TripleOf(row, place, which); product != -1 || shared != -1 || ok {
			t.Errorf("TripleOf(%d, %d, %d) = %d, %d, %v, want -1, -1, false", row, place, which, product, shared, ok)
		}
	}
	for _, row := range append(outside(mostTriple), 0, 1, 25, mostStar, mostStar+1, impl.MaxRow, math.MinInt+1, math.MaxInt-1) {
		for _, place := range []int{0, 1, 2, 10, 19, 20, -1, row - 1, row, math.MinInt, math.MaxInt} {
			for _, which := range []int{0, 1, 2, -1} {
				check(row, place, which)
			}
		}
	}
	for row := 2; row <= mostTriple; row++ {
		for _, place := range append(outside(row-1), 0, row, mostTriple, mostTriple+1) {
			if place < 1 || place >= row {
				check(row, place, 0)
				check(row, place, 1)
			}
		}
		for place := 1; place < row; place++ {
			for _, which := range append(outside(1), 4, 5, 6) {
				check(row, place, which)
			}
		}
	}
}
