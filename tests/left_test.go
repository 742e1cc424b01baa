package tests

import (
	"math"
	"math/big"
	"slices"
	"testing"

	"loop.example/carrytriangles/impl"
)

// mostLeftRow is the greatest row of RowLeft, mostLeftBy the greatest number by which rows are divided, and mostFactor the most numbers of a row that is multiplied.
const (
	mostLeftRow = 300
	mostLeftBy  = 1000
	mostFactor  = 300
)

// unlikeBys returns numbers by which rows are divided, primes, powers of them and others, from the least one to the greatest one.
func unlikeBys() []int {
	return []int{2, 3, 4, 5, 6, 7, 8, 9, 10, 13, 16, 30, 97, 128, 210, 256, 289, 300, 500, 512, 720, 961, 997, 998, 999, mostLeftBy}
}

// otherBys returns numbers by which no row is divided.
func otherBys() []int {
	return append(outside(mostLeftBy), 1, 0, -3, -997, math.MinInt+1, math.MaxInt-1)
}

// powerLeft tells what a prime leaves of a power.
func powerLeft(n, times, p int) int {
	left := new(big.Int).Exp(big.NewInt(int64(n)), big.NewInt(int64(times)), big.NewInt(int64(p)))
	return int(left.Int64())
}

// productLeft tells what a prime leaves of the product of all numbers up to a number, once the prime is divided out of it as often as may be.
// The numbers from 1 up to one less than the prime leave, multiplied, -1: so whole rounds of them need not be multiplied.
func productLeft(n, p int) int {
	left := 1
	for ; n > 0; n /= p {
		left *= powerLeft(p-1, n/p, p)
		for factor := 2; factor <= n%p; factor++ {
			left *= factor
		}
		left %= p
	}
	return left
}

// leftByProducts tells what a prime leaves of a cell by products of all numbers up to a number: without digits side by side, and without any cells.
func leftByProducts(row, place, p int) int {
	if place > row {
		return 0
	}
	if carriesByRests(place, row-place, p) > 0 {
		return 0
	}
	below := productLeft(place, p) * productLeft(row-place, p)
	return productLeft(row, p) * powerLeft(below, p-2, p) % p
}

// numberOf returns the number with these digits, from the lowest one on.
func numberOf(digits []int, base int) int {
	n := 0
	for _, digit := range slices.Backward(digits) {
		n = n*base + digit
	}
	return n
}

// placesUnder returns places each of whose digits is at most that of a row.
func placesUnder(row, p int) []int {
	digits := writtenDigits(row, p)
	var places []int
	for way := range p + 6 {
		lower := make([]int, len(digits))
		for at, digit := range digits {
			switch {
			case way < p:
				lower[at] = min(digit, way)
			case way == p:
				lower[at] = digit / 2
			case way == p+1:
				lower[at] = max(digit-1, 0)
			case way == p+2 && at%2 == 0, way == p+3 && at%2 == 1, way == p+4 && at == 0, way == p+5 && at == len(digits)-1:
				lower[at] = digit
			}
		}
		places = append(places, numberOf(lower, p))
	}
	slices.Sort(places)
	return slices.Compact(places)
}

// deepRows returns rows far down: those of numbersFor, and ones whose digits are all alike.
func deepRows(p int) []int {
	rows := numbersFor(p, impl.MaxNumber)
	ones := onesLess(p, impl.MaxNumber) / (p - 1)
	for digit := range p {
		rows = append(rows, digit*ones)
	}
	return rows
}

// checkLeftOf holds what is left against products, against what is under the row, and against the other end of it.
func checkLeftOf(t *testing.T, row, place, p int) {
	t.Helper()
	got := impl.LeftOf(row, place, p)
	if want := leftByProducts(row, place, p); got != want {
		t.Errorf("LeftOf(%d, %d, %d) = %d, want %d", row, place, p, got, want)
	}
	if under := impl.UnderOk(place, row, p); (got == 0) == under {
		t.Errorf("LeftOf(%d, %d, %d) = %d, but the place is under the row: %v", row, place, p, got, under)
	}
	if place <= row {
		if other := impl.LeftOf(row, row-place, p); got != other {
			t.Errorf("LeftOf(%d, %d, %d) = %d, but %d from the other end", row, place, p, got, other)
		}
	}
}

// Promise 16: digits tell what is left.

func TestLeftOfKnown(t *testing.T) {
	known := []struct{ row, place, p, want int }{
		{0, 0, 2, 1}, {0, 0, 13, 1}, {0, 1, 2, 0}, {0, 12, 13, 0}, {1, 0, 2, 1}, {1, 1, 2, 1}, {1, 2, 2, 0}, {2, 1, 2, 0}, {2, 1, 3, 2}, {4, 2, 5, 1}, {4, 2, 7, 6}, {13, 5, 2, 1},
		{3, 5, 7, 0}, {10, 3, 7, 1}, {10, 5, 13, 5}, {12, 6, 13, 1}, {1000, 300, 13, 10}, {6, 3, 11, 9}, {10, 5, 11, 10},
		{999999999, 0, 2, 1}, {999999999, 999999999, 13, 1}, {999999999, 999999998, 3, 0}, {999999999, 1, 5, 4}, {999999999, 999999998, 7, 5}, {999999999, 999999998, 11, 9},
		{999999999, 1, 13, 11}, {999999999, 13, 13, 9}, {999999999, 12, 13, 0}, {999999999, 499999999, 5, 2}, {999999999, 499999999, 2, 0}, {999999998, 999999999, 2, 0},
		{999999999, 270157928, 2, 1}, {999999999, 784764126, 3, 2}, {999999999, 488676121, 5, 4}, {999999999, 284962832, 7, 3}, {999999999, 857615359, 11, 10}, {999999999, 845528662, 13, 9},
		{536870912, 1, 2, 0}, {536870911, 268435456, 2, 1}, {387420488, 1, 3, 2}, {815730720, 1, 13, 12}, {815730720, 407865360, 13, 1}, {815730721, 815730720, 13, 0},
	}
	for _, k := range known {
		if got := impl.LeftOf(k.row, k.place, k.p); got != k.want {
			t.Errorf("LeftOf(%d, %d, %d) = %d, want %d", k.row, k.place, k.p, got, k.want)
		}
	}
}

func TestLeftOfIsInTheRow(t *testing.T) {
	left := new(big.Int)
	for row := range mostLeftRow + 1 {
		rows := map[int][]int{}
		for _, p := range primes() {
			rows[p] = impl.RowLeft(row, p)
		}
		for place := range row + 1 {
			cell := new(big.Int).Binomial(int64(row), int64(place))
			for _, p := range primes() {
				got := impl.LeftOf(row, place, p)
				if want := rows[p][place]; got != want {
					t.Errorf("LeftOf(%d, %d, %d) = %d, but in the row it is %d", row, place, p, got, want)
				}
				if want := left.Mod(cell, big.NewInt(int64(p))).Int64(); int64(got) != want {
					t.Errorf("LeftOf(%d, %d, %d) = %d, want %d", row, place, p, got, want)
				}
			}
		}
	}
}

func TestLeftOfBeyondTheRow(t *testing.T) {
	for _, p := range primes() {
		for _, row := range append(numbersFor(p, mostLeftRow), 100000, 499999999, impl.MaxNumber-1) {
			places := []int{row + 1, row + 2, row + p, 2*row + 1, p * (row + 1), row + p*p, 999999998, impl.MaxNumber}
			for _, place := range append(places, numbersFor(p, impl.MaxNumber)...) {
				if place <= row || place > impl.MaxNumber {
					continue
				}
				if got := impl.LeftOf(row, place, p); got != 0 {
					t.Errorf("LeftOf(%d, %d, %d) = %d, want 0", row, place, p, got)
				}
			}
		}
	}
}

func TestLeftOfFarDown(t *testing.T) {
	for _, p := range primes() {
		numbers := numbersFor(p, impl.MaxNumber)
		for _, row := range numbers {
			for _, place := range numbers {
				checkLeftOf(t, row, place, p)
			}
		}
	}
}

func TestLeftOfPlacesUnder(t *testing.T) {
	for _, p := range primes() {
		for _, row := range deepRows(p) {
			for _, place := range placesUnder(row, p) {
				checkLeftOf(t, row, place, p)
				if got := impl.LeftOf(row, place, p); got < 1 || got >= p {
					t.Errorf("LeftOf(%d, %d, %d) = %d, want it in 1..%d", row, place, p, got, p-1)
				}
			}
		}
	}
}

// One digit alone that is greater than that of the row leaves nothing, whichever it is: the lowest one, the highest one, or one between.
func TestLeftOfOneGreaterDigit(t *testing.T) {
	for _, p := range primes() {
		raised := 0
		for _, row := range deepRows(p) {
			upper := writtenDigits(row, p)
			for _, under := range placesUnder(row, p) {
				lower := append(writtenDigits(under, p), make([]int, len(upper)+1)...)[:len(upper)+1]
				for at := range lower {
					digit := 0
					if at < len(upper) {
						digit = upper[at]
					}
					greater := slices.Clone(lower)
					greater[at] = digit + 1
					place := numberOf(greater, p)
					if digit+1 == p || place > impl.MaxNumber {
						continue
					}
					raised++
					if got := impl.LeftOf(row, place, p); got != 0 {
						t.Errorf("LeftOf(%d, %d, %d) = %d, want 0: the digit %d is greater", row, place, p, got, at)
					}
				}
			}
		}
		if raised < 1000 {
			t.Errorf("only %d places were tried in the base %d", raised, p)
		}
	}
}

func TestLeftOfTimesThePrime(t *testing.T) {
	for _, p := range primes() {
		most := impl.MaxNumber / p
		for _, row := range append(numbersFor(p, most), deepRows(p)...) {
			for _, place := range append(placesUnder(row, p), numbersFor(p, most)...) {
				if row > most || place > most {
					continue
				}
				if got, want := impl.LeftOf(row*p, place*p, p), impl.LeftOf(row, place, p); got != want {
					t.Errorf("LeftOf(%d, %d, %d) = %d, want %d", row*p, place*p, p, got, want)
				}
			}
		}
	}
}

func TestLeftOfPowers(t *testing.T) {
	for _, p := range primes() {
		for _, power := range powersUpTo(p, impl.MaxNumber) {
			for _, place := range numbersFor(p, power) {
				want := 0
				if place == 0 || place == power {
					want = 1
				}
				if got := impl.LeftOf(power, place, p); got != want {
					t.Errorf("LeftOf(%d, %d, %d) = %d, want %d", power, place, p, got, want)
				}
				if place == power {
					continue
				}
				if got, want := impl.LeftOf(power-1, place, p), (signOf(place)+p)%p; got != want {
					t.Errorf("LeftOf(%d, %d, %d) = %d, want %d", power-1, place, p, got, want)
				}
			}
		}
	}
}

func TestLeftOfAtTheEnds(t *testing.T) {
	for _, p := range primes() {
		for _, row := range deepRows(p) {
			for _, place := range []int{0, row} {
				if got := impl.LeftOf(row, place, p); got != 1 {
					t.Errorf("LeftOf(%d, %d, %d) = %d, want 1", row, place, p, got)
				}
			}
			if row == 0 {
				continue
			}
			if got, want := impl.LeftOf(row, 1, p), row%p; got != want {
				t.Errorf("LeftOf(%d, 1, %d) = %d, want %d", row, p, got, want)
			}
			if got := impl.LeftOf(0, row, p); got != 0 {
				t.Errorf("LeftOf(0, %d, %d) = %d, want 0", row, p, got)
			}
		}
	}
}

func TestLeftOfOthers(t *testing.T) {
	check := func(row, place, p int) {
		t.Helper()
		if got := impl.LeftOf(row, place, p); got != -1 {
			t.Errorf("LeftOf(%d, %d, %d) = %d, want -1", row, place, p, got)
		}
	}
	for _, p := range append(primes(), noPrimes()...) {
		for _, bad := range outside(impl.MaxNumber) {
			for _, good := range []int{0, 1, 2, 13, 300, impl.MaxNumber} {
				check(bad, good, p)
				check(good, bad, p)
			}
			for _, other := range outside(impl.MaxNumber) {
				check(bad, other, p)
			}
		}
	}
	for _, p := range noPrimes() {
		for _, row := range []int{0, 1, 3, 17, 300, impl.MaxNumber} {
			for _, place := range []int{0, 1, row / 2, row, impl.MaxNumber} {
				check(row, place, p)
			}
		}
	}
}

// Promise 17: rows of a power of a prime leave their ends.

func TestRowLeftKnown(t *testing.T) {
	known := []struct {
		row, by int
		want    []int
	}{
		{0, 2, []int{1}}, {0, 1000, []int{1}}, {1, 2, []int{1, 1}}, {1, 1000, []int{1, 1}}, {2, 2, []int{1, 0, 1}}, {3, 2, []int{1, 1, 1, 1}}, {4, 2, []int{1, 0, 0, 0, 1}},
		{4, 3, []int{1, 1, 0, 1, 1}}, {4, 4, []int{1, 0, 2, 0, 1}}, {5, 4, []int{1, 1, 2, 2, 1, 1}}, {6, 4, []int{1, 2, 3, 0, 3, 2, 1}}, {6, 6, []int{1, 0, 3, 2, 3, 0, 1}},
		{9, 3, []int{1, 0, 0, 0, 0, 0, 0, 0, 0, 1}}, {9, 9, []int{1, 0, 0, 3, 0, 0, 3, 0, 0, 1}}, {8, 1000, []int{1, 8, 28, 56, 70, 56, 28, 8, 1}},
		{10, 100, []int{1, 10, 45, 20, 10, 52, 10, 20, 45, 10, 1}}, {13, 1000, []int{1, 13, 78, 286, 715, 287, 716, 716, 287, 715, 286, 78, 13, 1}},
		{12, 7, []int{1, 5, 3, 3, 5, 1, 0, 1, 5, 3, 3, 5, 1}},
	}
	for _, k := range known {
		if got := impl.RowLeft(k.row, k.by); !slices.Equal(got, k.want) {
			t.Errorf("RowLeft(%d, %d) = %v, want %v", k.row, k.by, got, k.want)
		}
	}
}

func TestRowLeftIsLeftOfTheRow(t *testing.T) {
	for row := range impl.MaxRow + 1 {
		cells := impl.RowOf(row)
		for by := 2; by <= mostLeftBy; by++ {
			got := impl.RowLeft(row, by)
			if len(got) != len(cells) {
				t.Fatalf("RowLeft(%d, %d) has %d cells, want %d", row, by, len(got), len(cells))
			}
			for place, cell := range cells {
				if want := cell % by; got[place] != want {
					t.Fatalf("RowLeft(%d, %d) has %d at %d, want %d", row, by, got[place], place, want)
				}
			}
		}
	}
}

// checkRowLeft holds what is left of a row against its whole cells.
func checkRowLeft(t *testing.T, row, by int, cells []*big.Int) {
	t.Helper()
	got := impl.RowLeft(row, by)
	if len(got) != len(cells) {
		t.Fatalf("RowLeft(%d, %d) has %d cells, want %d", row, by, len(got), len(cells))
	}
	left := new(big.Int)
	for place, cell := range cells {
		if want := left.Mod(cell, big.NewInt(int64(by))).Int64(); int64(got[place]) != want {
			t.Fatalf("RowLeft(%d, %d) has %d at %d, want %d", row, by, got[place], place, want)
		}
	}
}

func TestRowLeftFurtherDown(t *testing.T) {
	for row := range mostLeftRow + 1 {
		cells := make([]*big.Int, row+1)
		for place := range cells {
			cells[place] = new(big.Int).Binomial(int64(row), int64(place))
		}
		for _, by := range unlikeBys() {
			checkRowLeft(t, row, by, cells)
		}
		if row < 2 || row == mostLeftRow {
			for by := 2; by <= mostLeftBy; by++ {
				checkRowLeft(t, row, by, cells)
			}
		}
	}
}

func TestRowLeftOfPowers(t *testing.T) {
	tried := 0
	for p := 2; p <= mostLeftRow; p++ {
		if !big.NewInt(int64(p)).ProbablyPrime(0) {
			continue
		}
		for _, power := range powersUpTo(p, mostLeftRow) {
			want := make([]int, power+1)
			want[0], want[power] = 1, 1
			if got := impl.RowLeft(power, p); !slices.Equal(got, want) {
				t.Errorf("RowLeft(%d, %d) = %v, want only both ends", power, p, got)
			}
			tried++
		}
	}
	if want := 62 + 7 + 4 + 2 + 1 + 1 + 1 + 1 + 62; tried != want {
		t.Errorf("%d rows were tried, want %d", tried, want)
	}
}

func TestRowLeftOthers(t *testing.T) {
	check := func(row, by int) {
		t.Helper()
		if got := impl.RowLeft(row, by); len(got) != 0 {
			t.Errorf("RowLeft(%d, %d) = %v, want nothing", row, by, got)
		}
	}
	for _, row := range append(outside(mostLeftRow), impl.MaxNumber) {
		for _, by := range append(unlikeBys(), otherBys()...) {
			check(row, by)
		}
	}
	for _, by := range otherBys() {
		for _, row := range []int{0, 1, 2, 60, 61, mostLeftRow} {
			check(row, by)
		}
	}
}

func TestRowLeftIsNewMemory(t *testing.T) {
	for _, row := range []int{0, 1, 7, impl.MaxRow, mostLeftRow} {
		for _, by := range []int{2, 13, mostLeftBy} {
			want := impl.RowLeft(row, by)
			spoilt := impl.RowLeft(row, by)
			spoilt = spoilt[:cap(spoilt)]
			for place := range spoilt {
				spoilt[place] = -7
			}
			if slices.Contains(want, -7) {
				t.Errorf("RowLeft(%d, %d): two results share memory", row, by)
			}
			if got := impl.RowLeft(row, by); !slices.Equal(got, want) {
				t.Errorf("RowLeft(%d, %d) = %v after a result was written to, want %v", row, by, got, want)
			}
		}
	}
}

// Promise 18: rows are multiplied into rows.

// packed is a great number in whose parts of 32 bits the numbers of a row lie.
func packed(row []int) *big.Int {
	all := new(big.Int)
	for _, n := range slices.Backward(row) {
		all.Lsh(all, 32).Add(all, big.NewInt(int64(n)))
	}
	return all
}

// timesByParts tells what is left of the product of two rows by one product of great numbers: no sum of products needs more than a part.
func timesByParts(x, y []int, by int) []int {
	all := new(big.Int).Mul(packed(x), packed(y))
	product := make([]int, len(x)+len(y)-1)
	for place := range product {
		part := new(big.Int).And(all, big.NewInt(math.MaxUint32))
		product[place] = int(part.Int64()) % by
		all.Rsh(all, 32)
	}
	return product
}

// unevenRow returns a row of so many numbers, each in 0..by less 1, that differ from row to row.
func unevenRow(count, by, start int) []int {
	row := make([]int, count)
	n := start
	for place := range row {
		n = (n*7919 + 104729) % 1000003
		row[place] = n % by
	}
	return row
}

// factors returns rows that are multiplied: short ones and long ones, of noughts, of ones, of the greatest numbers that may be, and uneven ones.
func factors(by int) [][]int {
	rows := [][]int{{0}, {1}, {by - 1}, {0, 1}, {1, 1}, {by - 1, 0, 1}, {0, 0, by - 1, 0}}
	for _, count := range []int{1, 2, 3, 17, 149, mostFactor - 1, mostFactor} {
		rows = append(rows, make([]int, count), slices.Repeat([]int{1}, count), slices.Repeat([]int{by - 1}, count), unevenRow(count, by, count))
	}
	return rows
}

func TestTimesLeftKnown(t *testing.T) {
	known := []struct {
		x, y []int
		by   int
		want []int
	}{
		{[]int{1}, []int{1}, 2, []int{1}}, {[]int{0}, []int{1}, 2, []int{0}}, {[]int{1, 1}, []int{1, 1}, 2, []int{1, 0, 1}}, {[]int{1, 1}, []int{1, 2, 1}, 3, []int{1, 0, 0, 1}},
		{[]int{1, 1}, []int{1, 2, 1}, 1000, []int{1, 3, 3, 1}}, {[]int{2, 3}, []int{4, 5, 6}, 1000, []int{8, 22, 27, 18}}, {[]int{2, 3}, []int{4, 5, 6}, 7, []int{1, 1, 6, 4}},
		{[]int{999}, []int{999}, 1000, []int{1}}, {[]int{999, 999}, []int{999, 999}, 1000, []int{1, 2, 1}}, {[]int{0, 0, 5}, []int{0, 7}, 36, []int{0, 0, 0, 35}},
	}
	for _, k := range known {
		if got := impl.TimesLeft(k.x, k.y, k.by); !slices.Equal(got, k.want) {
			t.Errorf("TimesLeft(%v, %v, %d) = %v, want %v", k.x, k.y, k.by, got, k.want)
		}
	}
}

func TestTimesLeftOfRows(t *testing.T) {
	rows := []int{0, 1, 2, 3, 5, 8, 13, 27, 60, 61, 64, 100, 128, 149, 150, 151, 169, 200, 243, 256, 297, 298, 299}
	for _, by := range unlikeBys() {
		for _, first := range rows {
			for _, second := range rows {
				if first+second > mostLeftRow {
					continue
				}
				got := impl.TimesLeft(impl.RowLeft(first, by), impl.RowLeft(second, by), by)
				if want := impl.RowLeft(first+second, by); !slices.Equal(got, want) {
					t.Errorf("TimesLeft of the rows %d and %d by %d is %v, want %v", first, second, by, got, want)
				}
			}
		}
	}
}

func TestTimesLeftIsTheProduct(t *testing.T) {
	for _, by := range []int{2, 3, 4, 7, 10, 169, 997, 999, mostLeftBy} {
		for _, x := range factors(by) {
			for _, y := range factors(by) {
				got := impl.TimesLeft(x, y, by)
				if want := timesByParts(x, y, by); !slices.Equal(got, want) {
					t.Errorf("TimesLeft of %d and %d numbers by %d is %v, want %v", len(x), len(y), by, got, want)
				}
				if other := impl.TimesLeft(y, x, by); !slices.Equal(got, other) {
					t.Errorf("TimesLeft of %d and %d numbers by %d is %v, but %v exchanged", len(x), len(y), by, got, other)
				}
			}
		}
	}
}

func TestTimesLeftByOneAlone(t *testing.T) {
	for _, by := range unlikeBys() {
		for _, row := range factors(by) {
			if got := impl.TimesLeft(row, []int{1}, by); !slices.Equal(got, row) {
				t.Errorf("TimesLeft(%v, [1], %d) = %v, want the row", row, by, got)
			}
			if got := impl.TimesLeft([]int{1}, row, by); !slices.Equal(got, row) {
				t.Errorf("TimesLeft([1], %v, %d) = %v, want the row", row, by, got)
			}
		}
	}
}

// spoiltRows returns rows that are not multiplied by a number: without numbers, too long ones, and such with one number that may not be, at the beginning, between or at the end.
func spoiltRows(by int) [][]int {
	rows := [][]int{nil, {}, make([]int, mostFactor+1), slices.Repeat([]int{1}, mostFactor+1), make([]int, 2*mostFactor), {-1}, {by}}
	for _, bad := range []int{-1, by, by + 1, -by, math.MinInt, math.MaxInt} {
		for _, count := range []int{1, 2, 3, mostFactor} {
			for _, place := range []int{0, count / 2, count - 1} {
				row := slices.Repeat([]int{by - 1}, count)
				row[place] = bad
				rows = append(rows, row)
			}
		}
	}
	return rows
}

func TestTimesLeftOthers(t *testing.T) {
	check := func(x, y []int, by int) {
		t.Helper()
		if got := impl.TimesLeft(x, y, by); len(got) != 0 {
			t.Errorf("TimesLeft(%v, %v, %d) = %v, want nothing", x, y, by, got)
		}
	}
	for _, by := range []int{2, 3, 10, 997, mostLeftBy} {
		for _, bad := range spoiltRows(by) {
			for _, good := range factors(by) {
				check(bad, good, by)
				check(good, bad, by)
			}
			check(bad, bad, by)
		}
	}
	for _, by := range otherBys() {
		for _, row := range [][]int{nil, {}, {0}, {1}, {-1}, {0, 0}, {1, 2, 1}, make([]int, mostFactor), make([]int, mostFactor+1)} {
			check(row, []int{0}, by)
			check([]int{0}, row, by)
			check(row, row, by)
		}
	}
}

func TestTimesLeftLeavesItsArguments(t *testing.T) {
	for _, count := range []int{1, 2, 17, mostFactor} {
		memory := unevenRow(2*mostFactor, mostLeftBy, count)
		was := slices.Clone(memory)
		x, y := memory[:count], memory[1:count+1]
		got := impl.TimesLeft(x, y, mostLeftBy)
		if want := timesByParts(was[:count], was[1:count+1], mostLeftBy); !slices.Equal(got, want) {
			t.Errorf("TimesLeft of rows that share memory is %v, want %v", got, want)
		}
		got = got[:cap(got)]
		for place := range got {
			got[place] = -7
		}
		if !slices.Equal(memory, was) {
			t.Errorf("TimesLeft of %d numbers: an argument was written to", count)
		}
	}
}

func TestTimesLeftIsNewMemory(t *testing.T) {
	for _, count := range []int{1, 2, 17, mostFactor} {
		for _, y := range [][]int{{0}, {1}, {1, 1}, unevenRow(mostFactor, mostLeftBy, 5)} {
			x := unevenRow(count, mostLeftBy, count)
			want := impl.TimesLeft(x, y, mostLeftBy)
			spoilt := impl.TimesLeft(x, y, mostLeftBy)
			spoilt = spoilt[:cap(spoilt)]
			for place := range spoilt {
				spoilt[place] = -7
			}
			if slices.Contains(want, -7) {
				t.Errorf("TimesLeft of %d and %d numbers: two results share memory", count, len(y))
			}
			if got := impl.TimesLeft(x, y, mostLeftBy); !slices.Equal(got, want) {
				t.Errorf("TimesLeft of %d and %d numbers is %v after a result was written to, want %v", count, len(y), got, want)
			}
		}
	}
}
