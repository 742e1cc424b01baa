package tests

import (
	"math"
	"math/big"
	"slices"
	"sync"
	"testing"

	"loop.example/carrytriangles/impl"
)

// mostCellRow is the greatest row of CellLeft, mostCellBy the greatest number by which its cells are divided, mostTwice the greatest number of TwiceLeft, mostUnstretched the greatest row of StretchedOk, and mostHalf the greatest number of MiddleLeft.
const (
	mostCellRow     = 300
	mostCellBy      = 100000
	mostTwice       = 43
	mostUnstretched = 16
	mostHalf        = 150
)

// cellBys returns numbers by which cells are divided: 2, 4 and 9, primes, powers of primes and others, up to the greatest one.
func cellBys() []int {
	return []int{2, 3, 4, 5, 8, 9, 10, 16, 25, 27, 49, 97, 121, 169, 210, 289, 343, 1024, 1331, 4913, 9409, 30030, 59049, 65536, 78125, 79507, 83521, 97969, 99991, 99999, mostCellBy}
}

// otherCellBys returns numbers by which no cell is divided.
func otherCellBys() []int {
	return append(outside(mostCellBy), 1, 0, -3, -4, -9, 100003, 131072, 1000000, math.MinInt+1, math.MaxInt-1)
}

// bigCell tells a whole cell, by products and quotients.
func bigCell(row, place int) *big.Int {
	return new(big.Int).Binomial(int64(row), int64(place))
}

// leftOfBig tells what is left of a number, divided by another one.
func leftOfBig(n *big.Int, by int) int {
	return int(new(big.Int).Mod(n, big.NewInt(int64(by))).Int64())
}

// isPrime reports whether no number from 2 up to one less divides it.
func isPrime(n int) bool {
	for by := 2; by < n; by++ {
		if n%by == 0 {
			return false
		}
	}
	return n >= 2
}

// stretching returns the primes from 3 to 17.
func stretching() []int {
	return []int{3, 5, 7, 11, 13, 17}
}

// noStretching returns numbers that are no primes from 3 to 17.
func noStretching() []int {
	return append(outside(17), 0, 1, 2, 4, 6, 8, 9, 10, 12, 14, 15, 16, 19, 23, -3, -5, -17)
}

// checkCellLeft holds what is left against the whole cell, and against the other end of the row.
func checkCellLeft(t *testing.T, row, place, by int) {
	t.Helper()
	got := impl.CellLeft(row, place, by)
	if want := leftOfBig(bigCell(row, place), by); got != want {
		t.Errorf("CellLeft(%d, %d, %d) = %d, want %d", row, place, by, got, want)
	}
	if other := impl.CellLeft(row, row-place, by); got != other {
		t.Errorf("CellLeft(%d, %d, %d) = %d, but %d from the other end", row, place, by, got, other)
	}
}

// Promise 27: what is left of sums is left.

func TestCellLeftKnown(t *testing.T) {
	known := []struct{ row, place, by, want int }{
		{0, 0, 2, 1}, {0, 0, 4, 1}, {0, 0, 9, 1}, {0, 0, 100000, 1}, {1, 0, 2, 1}, {1, 1, 100000, 1}, {2, 1, 2, 0}, {2, 1, 4, 2}, {4, 2, 4, 2}, {6, 3, 9, 2}, {10, 5, 100, 52}, {10, 5, 251, 1}, {10, 5, 252, 0}, {10, 5, 253, 252}, {10, 5, 100000, 252},
		{16, 8, 4, 2}, {18, 9, 81, 20}, {27, 9, 9, 3}, {19, 9, 92378, 0}, {19, 9, 92379, 92378}, {19, 9, 100000, 92378}, {20, 10, 100000, 84756}, {60, 1, 59, 1}, {60, 30, 2, 0}, {60, 30, 4, 0}, {60, 30, 9, 4}, {60, 30, 100000, 61424},
		{64, 32, 4, 2}, {128, 64, 65536, 16966}, {243, 81, 81, 3}, {256, 128, 4, 2}, {256, 1, 255, 1}, {289, 17, 289, 17}, {289, 17, 83521, 17}, {299, 1, 300, 299}, {299, 149, 2, 0}, {299, 149, 4, 0}, {299, 149, 9, 0}, {299, 149, 100000, 30712},
		{300, 0, 2, 1}, {300, 300, 2, 1}, {300, 0, 100000, 1}, {300, 300, 100000, 1}, {300, 1, 299, 1}, {300, 299, 301, 300}, {300, 2, 44850, 0}, {300, 298, 44851, 44850}, {300, 2, 100000, 44850}, {300, 63, 59049, 2619}, {300, 64, 65536, 64020},
		{300, 65, 78125, 52600}, {300, 100, 10201, 10100}, {300, 128, 97969, 25269}, {300, 150, 2, 0}, {300, 150, 4, 0}, {300, 150, 9, 0}, {300, 150, 79507, 13310}, {300, 150, 99991, 27752}, {300, 150, 99999, 0}, {300, 150, 100000, 61424},
	}
	for _, k := range known {
		if got := impl.CellLeft(k.row, k.place, k.by); got != k.want {
			t.Errorf("CellLeft(%d, %d, %d) = %d, want %d", k.row, k.place, k.by, got, k.want)
		}
	}
}

func TestCellLeftIsWhatIsLeftOfTheCell(t *testing.T) {
	for row := range impl.MaxRow + 1 {
		for place := range row + 1 {
			cell := impl.CellOf(row, place)
			for _, by := range cellBys() {
				got := impl.CellLeft(row, place, by)
				if want := cell % by; got != want {
					t.Errorf("CellLeft(%d, %d, %d) = %d, want %d", row, place, by, got, want)
				}
				if want := cellByFactors(row, row-place) % by; got != want {
					t.Errorf("CellLeft(%d, %d, %d) = %d, but what is left at the other end is %d", row, place, by, got, want)
				}
			}
		}
	}
}

// Each row down to the last one is divided by another one of the numbers.
func TestCellLeftInAllRows(t *testing.T) {
	bys := cellBys()
	for row := range mostCellRow + 1 {
		for at, place := range []int{0, 1, 2, 16, 31, 32, 63, 64, 65, 100, 127, 128, 129, 192, 255, 256, 257, row / 3, row / 2, row - 1, row} {
			if 0 <= place && place <= row {
				checkCellLeft(t, row, place, bys[(row+at)%len(bys)])
			}
		}
	}
}

func TestCellLeftInWholeRows(t *testing.T) {
	for _, row := range []int{63, 64, 128, 129, 192, 255, 256, 257, mostCellRow - 1, mostCellRow} {
		for place := range row + 1 {
			checkCellLeft(t, row, place, 97969)
		}
	}
}

func TestCellLeftAtBothEndsAndInTheMiddle(t *testing.T) {
	for _, row := range []int{0, 1, 2, 3, mostCellRow - 1, mostCellRow} {
		for _, by := range cellBys() {
			for _, place := range []int{0, row} {
				if got := impl.CellLeft(row, place, by); got != 1 {
					t.Errorf("CellLeft(%d, %d, %d) = %d, want 1", row, place, by, got)
				}
			}
			checkCellLeft(t, row, row/2, by)
		}
	}
}

// A number greater than the cell leaves all of it, the cell itself leaves nothing, and one less leaves 1.
func TestCellLeftAroundTheCell(t *testing.T) {
	for _, row := range []int{1, 2, 3, 4, 5, 9, 10, 16, 19, 20, 100, mostCellRow - 1, mostCellRow} {
		for place := range row + 1 {
			cell := bigCell(row, place)
			if cell.Cmp(big.NewInt(mostCellBy)) >= 0 {
				continue
			}
			whole := int(cell.Int64())
			wants := map[int]int{whole + 1: whole, mostCellBy: whole}
			if whole > 1 {
				wants[whole] = 0
			}
			if whole > 2 {
				wants[whole-1] = 1
			}
			for by, want := range wants {
				if got := impl.CellLeft(row, place, by); got != want {
					t.Errorf("CellLeft(%d, %d, %d) = %d, want %d", row, place, by, got, want)
				}
			}
		}
	}
}

// Each number divides, from the least one to the greatest one.
func TestCellLeftByAllNumbers(t *testing.T) {
	cell := impl.CellOf(30, 15)
	for by := 2; by <= mostCellBy; by++ {
		if got := impl.CellLeft(30, 15, by); got != cell%by {
			t.Errorf("CellLeft(30, 15, %d) = %d, want %d", by, got, cell%by)
		}
	}
}

func TestCellLeftIsInTheRow(t *testing.T) {
	for _, by := range []int{2, 4, 9, 289, 1000} {
		for _, row := range []int{0, 1, 65, 130, mostCellRow} {
			for place, want := range impl.RowLeft(row, by) {
				if got := impl.CellLeft(row, place, by); got != want {
					t.Errorf("CellLeft(%d, %d, %d) = %d, but in the row it is %d", row, place, by, got, want)
				}
			}
		}
	}
}

func TestCellLeftOthers(t *testing.T) {
	check := func(row, place, by int) {
		t.Helper()
		if got := impl.CellLeft(row, place, by); got != -1 {
			t.Errorf("CellLeft(%d, %d, %d) = %d, want -1", row, place, by, got)
		}
	}
	for _, by := range cellBys() {
		for _, row := range outside(mostCellRow) {
			for _, place := range []int{-1, 0, 1, 150, row} {
				check(row, place, by)
			}
		}
		for _, row := range []int{0, 1, 2, 17, 63, 64, 299, mostCellRow} {
			for _, place := range append(outside(row), mostCellRow+1) {
				check(row, place, by)
			}
		}
	}
	for _, by := range otherCellBys() {
		for _, row := range []int{0, 1, 2, 64, mostCellRow} {
			for _, place := range []int{0, row / 2, row, row + 1, -1} {
				check(row, place, by)
			}
		}
		check(-1, -1, by)
		check(mostCellRow+1, 0, by)
	}
}

// Calls at the same time, and the same call again, answer alike.
func TestCellLeftAtTheSameTime(t *testing.T) {
	var asking sync.WaitGroup
	for _, by := range []int{4, 9, 25, 289, 97969, mostCellBy} {
		for row := mostCellRow - 20; row <= mostCellRow; row++ {
			asking.Add(1)
			go func() {
				defer asking.Done()
				want := leftOfBig(bigCell(row, row/2), by)
				for range 5 {
					if got := impl.CellLeft(row, row/2, by); got != want {
						t.Errorf("CellLeft(%d, %d, %d) = %d, want %d", row, row/2, by, got, want)
					}
				}
			}()
		}
	}
	asking.Wait()
}

// Promise 28: twice a prime leaves two.

func TestTwiceLeftOfPrimes(t *testing.T) {
	told := 0
	for p := range mostTwice + 1 {
		if !isPrime(p) {
			continue
		}
		told++
		want := 2
		switch p {
		case 2:
			want = 6
		case 3:
			want = 20
		}
		if got, ok := impl.TwiceLeft(p); got != want || !ok {
			t.Errorf("TwiceLeft(%d) = %d, %v, want %d, true", p, got, ok, want)
		}
		if by := leftOfBig(bigCell(2*p, p), p*p*p); by != want {
			t.Errorf("what is left of twice %d is %d, want %d", p, by, want)
		}
		if cell := impl.CellLeft(2*p, p, p*p*p); cell != want {
			t.Errorf("CellLeft(%d, %d, %d) = %d, want %d", 2*p, p, p*p*p, cell, want)
		}
	}
	if told != 14 {
		t.Errorf("%d primes are told, want 14", told)
	}
}

func TestTwiceLeftOthers(t *testing.T) {
	others := append(outside(mostTwice), 0, 1, 45, 46, 47, 49, 53, 59, 149, 150, -3, -5, -43, 1<<21, 1<<32+5, math.MinInt+5)
	for n := range mostTwice + 1 {
		if !isPrime(n) {
			others = append(others, n)
		}
	}
	for _, p := range others {
		if got, ok := impl.TwiceLeft(p); got != -1 || ok {
			t.Errorf("TwiceLeft(%d) = %d, %v, want -1, false", p, got, ok)
		}
	}
}

// Promise 29: rows tell primes.

func TestBetweenOkKnown(t *testing.T) {
	known := map[int]bool{2: true, 3: true, 4: false, 5: true, 6: false, 7: true, 8: false, 9: false, 13: true, 15: false, 16: false, 17: true, 25: false, 27: false, 49: false, 64: false, 121: false, 127: true, 128: false, 169: false, 243: false, 256: false, 257: true, 289: false, 293: true, 299: false, 300: false}
	for row, want := range known {
		if got := impl.BetweenOk(row); got != want {
			t.Errorf("BetweenOk(%d) = %v, want %v", row, got, want)
		}
	}
}

func TestBetweenOkTellsPrimes(t *testing.T) {
	for row := 2; row <= mostCellRow; row++ {
		got := impl.BetweenOk(row)
		if want := isPrime(row); got != want {
			t.Errorf("BetweenOk(%d) = %v, want %v", row, got, want)
		}
		divides := true
		for place := 1; place < row; place++ {
			divides = divides && leftOfBig(bigCell(row, place), row) == 0
		}
		if got != divides {
			t.Errorf("BetweenOk(%d) = %v, but its number divides all cells between: %v", row, got, divides)
		}
	}
}

func TestBetweenOkOthers(t *testing.T) {
	for _, row := range append(outside(mostCellRow), 0, 1, -3, -5, -7, 307, 311, 313, 331, 997, 1009, 65537, 99991, math.MaxInt-1) {
		if impl.BetweenOk(row) {
			t.Errorf("BetweenOk(%d) holds", row)
		}
	}
}

// Promise 30: stretched cells leave the same by the square.

func TestStretchedOkHolds(t *testing.T) {
	for _, p := range stretching() {
		for row := range mostUnstretched + 1 {
			for place := range row + 1 {
				if !impl.StretchedOk(row, place, p) {
					t.Errorf("StretchedOk(%d, %d, %d) does not hold", row, place, p)
				}
				here, there := leftOfBig(bigCell(row, place), p*p), leftOfBig(bigCell(row*p, place*p), p*p)
				if here != there {
					t.Errorf("the cell of %d at %d leaves %d by the square of %d, but %d stretched", row, place, here, p, there)
				}
			}
		}
	}
}

func TestStretchedOkOthers(t *testing.T) {
	check := func(row, place, p int) {
		t.Helper()
		if impl.StretchedOk(row, place, p) {
			t.Errorf("StretchedOk(%d, %d, %d) holds", row, place, p)
		}
	}
	for _, p := range stretching() {
		for _, row := range append(outside(mostUnstretched), 20, 100, mostCellRow) {
			for _, place := range []int{-1, 0, 1, 8, 16, row} {
				check(row, place, p)
			}
		}
		for row := range mostUnstretched + 1 {
			for _, place := range append(outside(row), mostUnstretched+1) {
				check(row, place, p)
			}
		}
	}
	for _, p := range noStretching() {
		for row := range mostUnstretched + 1 {
			for place := range row + 1 {
				check(row, place, p)
			}
		}
		check(-1, -1, p)
	}
}

// Promise 31: middle cells are even.

func TestMiddleLeftIsTwoForPowersOfTwo(t *testing.T) {
	for n := 1; n <= mostHalf; n++ {
		want := 0
		if slices.Contains([]int{1, 2, 4, 8, 16, 32, 64, 128}, n) {
			want = 2
		}
		if got := impl.MiddleLeft(n); got != want {
			t.Errorf("MiddleLeft(%d) = %d, want %d", n, got, want)
		}
		if cell := leftOfBig(bigCell(2*n, n), 4); cell != want {
			t.Errorf("the middle cell of %d leaves %d by 4, want %d", 2*n, cell, want)
		}
		if cell := impl.CellLeft(2*n, n, 4); cell != want {
			t.Errorf("CellLeft(%d, %d, 4) = %d, want %d", 2*n, n, cell, want)
		}
	}
}

func TestMiddleLeftOthers(t *testing.T) {
	for _, n := range append(outside(mostHalf), 0, -4, -128, 256, 300, 512, 1<<62, math.MinInt+1) {
		if got := impl.MiddleLeft(n); got != -1 {
			t.Errorf("MiddleLeft(%d) = %d, want -1", n, got)
		}
	}
}
