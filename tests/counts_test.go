package tests

import (
	"math"
	"math/bits"
	"slices"
	"sync"
	"testing"

	"loop.example/carrytriangles/impl"
)

// mostSummed is the greatest row whose cells are all made here by sums.
const mostSummed = 1500

// keptBySums counts, for all rows from 0 up to mostSummed, the cells that a prime does not divide: it makes them by sums, without digits and without the program.
func keptBySums(p int) []int {
	var kept []int
	cells := []int{1}
	for range mostSummed + 1 {
		count := 0
		for _, cell := range cells {
			if cell != 0 {
				count++
			}
		}
		kept = append(kept, count)
		next := append(slices.Clone(cells), 0)
		for place, cell := range cells {
			next[place+1] = (next[place+1] + cell) % p
		}
		cells = next
	}
	return kept
}

// keptByDigits counts the cells of a row that a prime does not divide by the digits that the library writes.
func keptByDigits(row, p int) int {
	kept := 1
	for _, digit := range writtenDigits(row, p) {
		kept *= digit + 1
	}
	return kept
}

// keptBeforeByRests counts the cells of all rows before a row that a prime does not divide, from the lowest digit on.
// Rows that differ only in that digit keep what the row without it keeps, times one more than the digit.
func keptBeforeByRests(row, p int) int {
	if row == 0 {
		return 0
	}
	rounds, rest := row/p, row%p
	whole, part := 0, 0
	for times := 1; times <= p; times++ {
		whole += times
		if times <= rest {
			part += times
		}
	}
	return keptBeforeByRests(rounds, p)*whole + keptByDigits(rounds, p)*part
}

// wholeByDigits returns all whole rows up to a row: it writes all their digits down.
func wholeByDigits(row, p int) []int {
	rows := []int{0}
	for lower := 0; ; lower++ {
		for highest := 1; highest < p; highest++ {
			n := numberOf(append(slices.Repeat([]int{p - 1}, lower), highest), p)
			if n > row {
				return rows
			}
			rows = append(rows, n)
		}
	}
}

// countedRows returns rows far down: those of deepRows, those around each digit with noughts alone behind it, such with a nought between, and such with noughts behind them.
func countedRows(p int) []int {
	rows := deepRows(p)
	for _, power := range powersUpTo(p, impl.MaxNumber) {
		for digit := 1; digit < p; digit++ {
			for _, n := range []int{digit*power - 2, digit*power - 1, digit * power, digit*power + 1, digit*power*p*p + power, digit*power*p*p - p*power, power*p*p*p + digit*p*power} {
				if 0 <= n && n <= impl.MaxNumber {
					rows = append(rows, n)
				}
			}
		}
	}
	slices.Sort(rows)
	return slices.Compact(rows)
}

// checkOthers calls a check with all arguments beside a row and a prime that are none.
func checkOthers(check func(row, p int)) {
	for _, row := range outside(impl.MaxNumber) {
		for _, p := range append(primes(), noPrimes()...) {
			check(row, p)
		}
	}
	for _, p := range noPrimes() {
		for _, row := range []int{0, 1, 2, 7, 8, 80, 81, 288, 300, 536870911, impl.MaxNumber} {
			check(row, p)
		}
	}
}

// Promise 19: rows keep what digits let them.

func TestLeftInKnown(t *testing.T) {
	known := []struct{ row, p, want int }{
		{0, 2, 1}, {0, 5, 1}, {0, 13, 1}, {1, 2, 2}, {1, 13, 2}, {2, 2, 2}, {2, 3, 3}, {3, 2, 4}, {3, 3, 2}, {4, 3, 4}, {5, 3, 6}, {5, 5, 2}, {8, 3, 9}, {9, 3, 2}, {10, 3, 4}, {13, 2, 8}, {13, 3, 8},
		{13, 5, 12}, {13, 7, 14}, {13, 11, 6}, {13, 13, 2}, {100, 5, 5}, {100, 11, 20}, {100, 13, 80}, {302, 7, 28}, {1000, 2, 64}, {1000, 7, 441}, {1000, 11, 297}, {1000, 13, 936}, {1001, 5, 16},
		{999999999, 2, 2097152}, {999999999, 3, 1944}, {999999999, 5, 58593750}, {999999999, 7, 451584}, {999999999, 11, 9331200}, {999999999, 13, 2471040},
		{999999998, 2, 1048576}, {999999998, 3, 78732}, {536870911, 2, 536870912}, {536870912, 2, 2}, {536870913, 2, 4}, {387420488, 3, 387420489}, {387420489, 3, 2}, {774840977, 3, 774840978},
		{976562499, 5, 976562500}, {847425746, 7, 847425747}, {857435523, 11, 857435524}, {815730720, 13, 815730721}, {815730721, 13, 2}, {815730722, 13, 4},
	}
	for _, k := range known {
		if got := impl.LeftIn(k.row, k.p); got != k.want {
			t.Errorf("LeftIn(%d, %d) = %d, want %d", k.row, k.p, got, k.want)
		}
	}
}

func TestLeftInIsTheRow(t *testing.T) {
	for _, p := range primes() {
		for row := range mostLeftRow + 1 {
			kept := 0
			for _, cell := range impl.RowLeft(row, p) {
				if cell != 0 {
					kept++
				}
			}
			if got := impl.LeftIn(row, p); got != kept {
				t.Errorf("LeftIn(%d, %d) = %d, but %d cells of RowLeft are not 0", row, p, got, kept)
			}
		}
		for row, want := range keptBySums(p) {
			if got := impl.LeftIn(row, p); got != want {
				t.Errorf("LeftIn(%d, %d) = %d, want %d", row, p, got, want)
			}
		}
	}
}

func TestLeftInFarDown(t *testing.T) {
	for _, p := range primes() {
		for _, row := range countedRows(p) {
			got := impl.LeftIn(row, p)
			if want := keptByDigits(row, p); got != want {
				t.Errorf("LeftIn(%d, %d) = %d, want %d", row, p, got, want)
			}
			if want := impl.CountUnder(row, p); got != want {
				t.Errorf("LeftIn(%d, %d) = %d, but %d numbers are under the row", row, p, got, want)
			}
			if row > impl.MaxNumber/p {
				continue
			}
			if times := impl.LeftIn(row*p, p); times != got {
				t.Errorf("LeftIn(%d, %d) = %d, want the %d of the row %d", row*p, p, times, got, row)
			}
		}
	}
}

func TestLeftInForTwo(t *testing.T) {
	for _, row := range countedRows(2) {
		got := impl.LeftIn(row, 2)
		if want := 1 << impl.SumOfDigits(row, 2); got != want {
			t.Errorf("LeftIn(%d, 2) = %d, want %d", row, got, want)
		}
		if want := 1 << bits.OnesCount(uint(row)); got != want {
			t.Errorf("LeftIn(%d, 2) = %d, want %d", row, got, want)
		}
	}
}

func TestLeftInAroundPowers(t *testing.T) {
	for _, p := range primes() {
		for _, power := range powersUpTo(p, impl.MaxNumber) {
			want := map[int]int{power - 1: power, power: 2}
			if power > 1 {
				want[power+1] = 4
			}
			for row, kept := range want {
				if got := impl.LeftIn(row, p); got != kept {
					t.Errorf("LeftIn(%d, %d) = %d, want %d", row, p, got, kept)
				}
			}
		}
	}
}

func TestLeftInOthers(t *testing.T) {
	checkOthers(func(row, p int) {
		if got := impl.LeftIn(row, p); got != -1 {
			t.Errorf("LeftIn(%d, %d) = %d, want -1", row, p, got)
		}
	})
}

// Promise 20: rows up to a power keep a power.

func TestLeftUpToKnown(t *testing.T) {
	known := []struct{ row, p, want int }{
		{0, 2, 0}, {0, 3, 0}, {0, 13, 0}, {1, 2, 1}, {1, 3, 1}, {1, 13, 1}, {2, 2, 3}, {2, 13, 3}, {3, 3, 6}, {5, 3, 12}, {8, 2, 27}, {9, 3, 36}, {13, 2, 49}, {13, 3, 52}, {13, 5, 63}, {13, 7, 70}, {13, 11, 72},
		{13, 13, 91}, {100, 2, 1251}, {100, 3, 1518}, {100, 5, 2250}, {100, 7, 2361}, {100, 11, 2980}, {100, 13, 2908}, {302, 7, 16674}, {1000, 2, 52137}, {1000, 13, 165867}, {1001, 3, 63096}, {1001, 13, 166803},
		{999999999, 2, 159613784669737}, {999999999, 3, 410530424641344}, {999999999, 5, 1307843027343750}, {999999999, 7, 2129970654862848}, {999999999, 11, 4387032817056000}, {999999999, 13, 5279940189197089},
		{999999998, 2, 159613783621161}, {999999998, 13, 5279940186931969}, {536870911, 2, 68629840493971}, {536870912, 2, 68630377364883}, {536870913, 2, 68630377364885},
		{387420488, 3, 101559569247927}, {387420489, 3, 101559956668416}, {387420490, 3, 101559956668418}, {244140625, 5, 129746337890625}, {282475249, 7, 296196766695424},
		{214358881, 11, 360040606269696}, {815730720, 13, 4702524460420800}, {815730721, 13, 4702525276151521}, {815730722, 13, 4702525276151523},
	}
	for _, k := range known {
		if got := impl.LeftUpTo(k.row, k.p); got != k.want {
			t.Errorf("LeftUpTo(%d, %d) = %d, want %d", k.row, k.p, got, k.want)
		}
	}
}

func TestLeftUpToIsAllRows(t *testing.T) {
	for _, p := range primes() {
		before := 0
		for row, kept := range keptBySums(p) {
			if got := impl.LeftUpTo(row, p); got != before {
				t.Errorf("LeftUpTo(%d, %d) = %d, want %d", row, p, got, before)
			}
			before += kept
		}
	}
}

func TestLeftUpToFarDown(t *testing.T) {
	for _, p := range primes() {
		for _, row := range countedRows(p) {
			got := impl.LeftUpTo(row, p)
			if want := keptBeforeByRests(row, p); got != want {
				t.Errorf("LeftUpTo(%d, %d) = %d, want %d", row, p, got, want)
			}
			if row < impl.MaxNumber {
				if next, want := impl.LeftUpTo(row+1, p), got+impl.LeftIn(row, p); next != want {
					t.Errorf("LeftUpTo(%d, %d) = %d, want %d", row+1, p, next, want)
				}
			}
			if row <= impl.MaxNumber/p {
				if times, want := impl.LeftUpTo(row*p, p), got*p*(p+1)/2; times != want {
					t.Errorf("LeftUpTo(%d, %d) = %d, want %d", row*p, p, times, want)
				}
			}
		}
	}
}

func TestLeftUpToPowers(t *testing.T) {
	for _, p := range primes() {
		want := 1
		for _, power := range powersUpTo(p, impl.MaxNumber) {
			if got := impl.LeftUpTo(power, p); got != want {
				t.Errorf("LeftUpTo(%d, %d) = %d, want %d", power, p, got, want)
			}
			if got := impl.LeftUpTo(power-1, p); got != want-power {
				t.Errorf("LeftUpTo(%d, %d) = %d, want %d", power-1, p, got, want-power)
			}
			if got := impl.LeftUpTo(power+1, p); got != want+2 {
				t.Errorf("LeftUpTo(%d, %d) = %d, want %d", power+1, p, got, want+2)
			}
			for times := 2; times < p && times*power <= impl.MaxNumber; times++ {
				if got := impl.LeftUpTo(times*power, p); got != want*times*(times+1)/2 {
					t.Errorf("LeftUpTo(%d, %d) = %d, want %d", times*power, p, got, want*times*(times+1)/2)
				}
			}
			want *= p * (p + 1) / 2
		}
	}
}

// What is counted by goroutines does not depend on which one ends first, nor on other calls at the same time.
func TestLeftUpToManyTimesAtOnce(t *testing.T) {
	var calls sync.WaitGroup
	for _, p := range primes() {
		for _, row := range []int{0, 1, 536870911, 815730721, impl.MaxNumber - 1, impl.MaxNumber} {
			want := keptBeforeByRests(row, p)
			for range 4 {
				calls.Go(func() {
					for range 200 {
						if got := impl.LeftUpTo(row, p); got != want {
							t.Errorf("LeftUpTo(%d, %d) = %d, want %d", row, p, got, want)
							return
						}
					}
				})
			}
		}
	}
	calls.Wait()
}

func TestLeftUpToOthers(t *testing.T) {
	checkOthers(func(row, p int) {
		if got := impl.LeftUpTo(row, p); got != -1 {
			t.Errorf("LeftUpTo(%d, %d) = %d, want -1", row, p, got)
		}
	})
}

// Promise 21: whole rows keep all.

func TestWholeOkKnown(t *testing.T) {
	known := []struct {
		row, p int
		want   bool
	}{
		{0, 2, true}, {0, 3, true}, {0, 13, true}, {1, 2, true}, {1, 13, true}, {2, 2, false}, {2, 3, true}, {2, 5, true}, {3, 2, true}, {3, 3, false}, {4, 3, false}, {5, 3, true}, {6, 2, false}, {6, 3, false},
		{7, 2, true}, {7, 3, false}, {8, 2, false}, {8, 3, true}, {12, 13, true}, {13, 13, false}, {24, 5, true}, {25, 5, false}, {25, 13, true}, {26, 3, true}, {29, 5, false}, {34, 5, false}, {49, 5, true}, {48, 7, true},
		{168, 13, true}, {155, 13, true}, {154, 13, false}, {167, 13, false}, {156, 13, false}, {5, 2, false}, {9, 2, false}, {13, 2, false}, {536870910, 2, false}, {536870911, 2, true}, {536870912, 2, false},
		{387420488, 3, true}, {387420489, 3, false}, {774840976, 3, false}, {774840977, 3, true}, {774840978, 3, false}, {976562499, 5, true}, {976562498, 5, false}, {847425746, 7, true}, {857435523, 11, true},
		{815730720, 13, true}, {815730719, 13, false}, {815730721, 13, false}, {999999999, 2, false}, {999999999, 3, false}, {999999999, 5, false}, {999999999, 7, false}, {999999999, 11, false}, {999999999, 13, false},
	}
	for _, k := range known {
		if got := impl.WholeOk(k.row, k.p); got != k.want {
			t.Errorf("WholeOk(%d, %d) = %v, want %v", k.row, k.p, got, k.want)
		}
	}
}

func TestWholeOkKeepsAll(t *testing.T) {
	for _, p := range primes() {
		for row, kept := range keptBySums(p) {
			if got, want := impl.WholeOk(row, p), kept == row+1; got != want {
				t.Errorf("WholeOk(%d, %d) = %v, want %v", row, p, got, want)
			}
		}
		for _, row := range countedRows(p) {
			got := impl.WholeOk(row, p)
			if want := impl.LeftIn(row, p) == row+1; got != want {
				t.Errorf("WholeOk(%d, %d) = %v, but it keeps all: %v", row, p, got, want)
			}
			if want := keptByDigits(row, p) == row+1; got != want {
				t.Errorf("WholeOk(%d, %d) = %v, want %v", row, p, got, want)
			}
		}
	}
}

func TestWholeOkAroundPowers(t *testing.T) {
	for _, p := range primes() {
		for _, power := range powersUpTo(p, impl.MaxNumber) {
			if !impl.WholeOk(power-1, p) {
				t.Errorf("WholeOk(%d, %d) = false, want true", power-1, p)
			}
			if power == 1 {
				continue
			}
			if impl.WholeOk(power, p) {
				t.Errorf("WholeOk(%d, %d) = true, want false", power, p)
			}
			// It ends with the digit 1, which is 1 less than 2 alone, and has noughts ahead of it unless it has two digits.
			if got, want := impl.WholeOk(power+1, p), power == 2; got != want {
				t.Errorf("WholeOk(%d, %d) = %v, want %v", power+1, p, got, want)
			}
		}
	}
}

// One digit alone that is less than it may be makes a row that is not whole, but for the highest one.
func TestWholeOkOneLesserDigit(t *testing.T) {
	for _, p := range primes() {
		for _, row := range wholeByDigits(impl.MaxNumber, p) {
			digits := writtenDigits(row, p)
			for at := range digits {
				for digit := range digits[at] {
					lesser := slices.Clone(digits)
					lesser[at] = digit
					n := numberOf(lesser, p)
					if got, want := impl.WholeOk(n, p), at == len(digits)-1; got != want {
						t.Errorf("WholeOk(%d, %d) = %v, want %v: the digit %d is %d", n, p, got, want, at, digit)
					}
				}
			}
		}
	}
}

func TestWholeOkOthers(t *testing.T) {
	checkOthers(func(row, p int) {
		if impl.WholeOk(row, p) {
			t.Errorf("WholeOk(%d, %d) = true, want false", row, p)
		}
	})
}

// Rows that would be whole but for the greatest number are not allowed, however whole they are.
func TestWholeOkTooFarDown(t *testing.T) {
	for _, p := range primes() {
		tooFar := 0
		for _, row := range wholeByDigits(100*impl.MaxNumber, p) {
			if row <= impl.MaxNumber {
				continue
			}
			tooFar++
			if impl.WholeOk(row, p) {
				t.Errorf("WholeOk(%d, %d) = true, want false", row, p)
			}
			if got := impl.WholeUpTo(row, p); len(got) != 0 {
				t.Errorf("WholeUpTo(%d, %d) = %v, want nothing", row, p, got)
			}
		}
		if tooFar < 6 {
			t.Errorf("only %d rows were tried for %d", tooFar, p)
		}
	}
}

// Promise 22: whole rows are few.

func TestWholeUpToKnown(t *testing.T) {
	known := []struct {
		row, p int
		want   []int
	}{
		{0, 2, []int{0}}, {0, 3, []int{0}}, {0, 13, []int{0}}, {1, 2, []int{0, 1}}, {1, 3, []int{0, 1}}, {1, 13, []int{0, 1}}, {2, 2, []int{0, 1}}, {2, 3, []int{0, 1, 2}}, {3, 2, []int{0, 1, 3}},
		{4, 3, []int{0, 1, 2}}, {5, 3, []int{0, 1, 2, 5}}, {6, 3, []int{0, 1, 2, 5}}, {7, 3, []int{0, 1, 2, 5}}, {8, 3, []int{0, 1, 2, 5, 8}}, {10, 3, []int{0, 1, 2, 5, 8}}, {100, 2, []int{0, 1, 3, 7, 15, 31, 63}},
		{100, 3, []int{0, 1, 2, 5, 8, 17, 26, 53, 80}}, {100, 5, []int{0, 1, 2, 3, 4, 9, 14, 19, 24, 49, 74, 99}}, {99, 5, []int{0, 1, 2, 3, 4, 9, 14, 19, 24, 49, 74, 99}}, {98, 5, []int{0, 1, 2, 3, 4, 9, 14, 19, 24, 49, 74}},
		{13, 13, []int{0, 1, 2, 3, 4, 5, 6, 7, 8, 9, 10, 11, 12}}, {25, 13, []int{0, 1, 2, 3, 4, 5, 6, 7, 8, 9, 10, 11, 12, 25}},
		{impl.MaxNumber, 2, []int{0, 1, 3, 7, 15, 31, 63, 127, 255, 511, 1023, 2047, 4095, 8191, 16383, 32767, 65535, 131071, 262143, 524287, 1048575, 2097151, 4194303, 8388607, 16777215, 33554431, 67108863, 134217727, 268435455, 536870911}},
	}
	for _, k := range known {
		if got := impl.WholeUpTo(k.row, k.p); !slices.Equal(got, k.want) {
			t.Errorf("WholeUpTo(%d, %d) = %v, want %v", k.row, k.p, got, k.want)
		}
	}
}

func TestWholeUpToIsAllThatAre(t *testing.T) {
	for _, p := range primes() {
		var wholeHere, wholeThere []int
		for row, kept := range keptBySums(p) {
			if kept == row+1 {
				wholeHere = append(wholeHere, row)
			}
			if impl.WholeOk(row, p) {
				wholeThere = append(wholeThere, row)
			}
			got := impl.WholeUpTo(row, p)
			if !slices.Equal(got, wholeHere) {
				t.Errorf("WholeUpTo(%d, %d) = %v, want %v", row, p, got, wholeHere)
			}
			if !slices.Equal(got, wholeThere) {
				t.Errorf("WholeUpTo(%d, %d) = %v, but %v are", row, p, got, wholeThere)
			}
		}
	}
}

func TestWholeUpToFarDown(t *testing.T) {
	for _, p := range primes() {
		for _, row := range countedRows(p) {
			got := impl.WholeUpTo(row, p)
			if want := wholeByDigits(row, p); !slices.Equal(got, want) {
				t.Errorf("WholeUpTo(%d, %d) = %v, want %v", row, p, got, want)
			}
			before := -1
			for _, whole := range got {
				if whole <= before || whole > row || !impl.WholeOk(whole, p) {
					t.Errorf("WholeUpTo(%d, %d) has %d behind %d", row, p, whole, before)
				}
				before = whole
			}
		}
	}
}

// A row that is whole itself is the last one that is told, and not yet for a row one less.
func TestWholeUpToWholeRows(t *testing.T) {
	for _, p := range primes() {
		all := wholeByDigits(impl.MaxNumber, p)
		for at, row := range all {
			if got := impl.WholeUpTo(row, p); !slices.Equal(got, all[:at+1]) {
				t.Errorf("WholeUpTo(%d, %d) = %v, want %v", row, p, got, all[:at+1])
			}
			if row == 0 {
				continue
			}
			if got := impl.WholeUpTo(row-1, p); !slices.Equal(got, all[:at]) {
				t.Errorf("WholeUpTo(%d, %d) = %v, want %v", row-1, p, got, all[:at])
			}
		}
		if got := impl.WholeUpTo(impl.MaxNumber, p); !slices.Equal(got, all) {
			t.Errorf("WholeUpTo(%d, %d) = %v, want %v", impl.MaxNumber, p, got, all)
		}
		if most := int(math.Log(impl.MaxNumber)/math.Log(float64(p))+1) * p; len(all) > most {
			t.Errorf("%d rows are whole for %d, but at most %d may be", len(all), p, most)
		}
	}
}

func TestWholeUpToOthers(t *testing.T) {
	checkOthers(func(row, p int) {
		if got := impl.WholeUpTo(row, p); len(got) != 0 {
			t.Errorf("WholeUpTo(%d, %d) = %v, want nothing", row, p, got)
		}
	})
}

func TestWholeUpToIsNewMemory(t *testing.T) {
	for _, p := range primes() {
		for _, row := range []int{0, 1, 10, 300, impl.MaxNumber} {
			want := impl.WholeUpTo(row, p)
			spoilt := impl.WholeUpTo(row, p)
			spoilt = spoilt[:cap(spoilt)]
			for place := range spoilt {
				spoilt[place] = -7
			}
			if slices.Contains(want, -7) {
				t.Errorf("WholeUpTo(%d, %d): two results share memory", row, p)
			}
			if got := impl.WholeUpTo(row, p); !slices.Equal(got, want) {
				t.Errorf("WholeUpTo(%d, %d) = %v after a result was written to, want %v", row, p, got, want)
			}
		}
	}
}
