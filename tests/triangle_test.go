package tests

import (
	"math"
	"math/big"
	"slices"
	"testing"

	"loop.example/carrytriangles/impl"
)

// cellByFactors tells a cell by products and quotients, without any sums of cells: so the tests do not repeat the program.
func cellByFactors(row, place int) int {
	return int(new(big.Int).Binomial(int64(row), int64(place)).Int64())
}

// signOf is 1 for even places and -1 for odd ones.
func signOf(place int) int {
	return 1 - 2*(place%2)
}

// outside returns numbers that are not in 0..most: the ones just outside, and the ones furthest away.
func outside(most int) []int {
	return []int{-1, most + 1, -2, most + 2, -most - 1, math.MinInt, math.MaxInt}
}

// Promise 1: rows look the same from both ends.

func TestGreatestRow(t *testing.T) {
	if impl.MaxRow != 60 {
		t.Errorf("MaxRow = %d, want 60", impl.MaxRow)
	}
}

func TestRowOfKnownRows(t *testing.T) {
	known := [][]int{{1}, {1, 1}, {1, 2, 1}, {1, 3, 3, 1}, {1, 4, 6, 4, 1}, {1, 5, 10, 10, 5, 1}}
	for row, want := range known {
		if got := impl.RowOf(row); !slices.Equal(got, want) {
			t.Errorf("RowOf(%d) = %v, want %v", row, got, want)
		}
	}
}

func TestRowOfLooksTheSameFromBothEnds(t *testing.T) {
	for row := range impl.MaxRow + 1 {
		cells := impl.RowOf(row)
		if len(cells) != row+1 {
			t.Fatalf("RowOf(%d) has %d cells, want %d", row, len(cells), row+1)
		}
		sum := 0
		for place, cell := range cells {
			sum += cell
			if other := cells[row-place]; cell != other {
				t.Errorf("RowOf(%d): %d at %d, but %d from the other end", row, cell, place, other)
			}
			if want := cellByFactors(row, place); cell != want {
				t.Errorf("RowOf(%d): %d at %d, want %d", row, cell, place, want)
			}
		}
		if cells[0] != 1 || cells[row] != 1 {
			t.Errorf("RowOf(%d) ends with %d and %d, want 1 and 1", row, cells[0], cells[row])
		}
		if sum != 1<<row {
			t.Errorf("RowOf(%d) is %d together, want %d", row, sum, 1<<row)
		}
	}
}

func TestRowOfOthers(t *testing.T) {
	for _, row := range outside(impl.MaxRow) {
		if got := impl.RowOf(row); len(got) != 0 {
			t.Errorf("RowOf(%d) = %v, want nothing", row, got)
		}
	}
}

func TestRowOfIsNewMemory(t *testing.T) {
	for _, row := range []int{0, 1, 7, impl.MaxRow} {
		want := impl.RowOf(row)
		spoilt := impl.RowOf(row)
		spoilt = spoilt[:cap(spoilt)]
		for place := range spoilt {
			spoilt[place] = -7
		}
		if slices.Contains(want, -7) {
			t.Errorf("RowOf(%d): two results share memory", row)
		}
		if got := impl.RowOf(row); !slices.Equal(got, want) {
			t.Errorf("RowOf(%d) = %v after a result was written to, want %v", row, got, want)
		}
	}
}

// Promise 2: each cell is the sum of the two above.

func TestCellOfIsTheSumOfTheTwoAbove(t *testing.T) {
	for row := 1; row <= impl.MaxRow; row++ {
		if got := impl.CellOf(row, 0); got != impl.CellOf(row-1, 0) {
			t.Errorf("CellOf(%d, 0) = %d, want the one above it", row, got)
		}
		for place := 1; place <= impl.MaxRow+2; place++ {
			got := impl.CellOf(row, place)
			before := impl.CellOf(row-1, place-1)
			if want := impl.CellOf(row-1, place) + before; got != want {
				t.Errorf("CellOf(%d, %d) = %d, want %d", row, place, got, want)
			}
			// The products of the lowest rows are beyond 64 bits.
			left := new(big.Int).Mul(big.NewInt(int64(got)), big.NewInt(int64(place)))
			right := new(big.Int).Mul(big.NewInt(int64(before)), big.NewInt(int64(row)))
			if left.Cmp(right) != 0 {
				t.Errorf("CellOf(%d, %d) times its place is %v, want %v", row, place, left, right)
			}
		}
	}
}

func TestCellOfIsInTheRow(t *testing.T) {
	for row := range impl.MaxRow + 1 {
		for place, want := range impl.RowOf(row) {
			if got := impl.CellOf(row, place); got != want {
				t.Errorf("CellOf(%d, %d) = %d, want %d", row, place, got, want)
			}
		}
	}
	known := []struct{ row, place, want int }{
		{0, 0, 1}, {1, 0, 1}, {1, 1, 1}, {10, 5, 252}, {60, 0, 1}, {60, 1, 60}, {60, 30, 118264581564861424}, {60, 59, 60}, {60, 60, 1},
	}
	for _, k := range known {
		if got := impl.CellOf(k.row, k.place); got != k.want {
			t.Errorf("CellOf(%d, %d) = %d, want %d", k.row, k.place, got, k.want)
		}
	}
}

func TestCellOfBeyondTheRow(t *testing.T) {
	for row := range impl.MaxRow + 1 {
		for _, place := range []int{row + 1, row + 2, 2*row + 1, impl.MaxRow + 1, 999999999, math.MaxInt} {
			if got := impl.CellOf(row, place); got != 0 {
				t.Errorf("CellOf(%d, %d) = %d, want 0", row, place, got)
			}
		}
	}
}

func TestCellOfOthers(t *testing.T) {
	for _, row := range outside(impl.MaxRow) {
		for _, place := range []int{0, 1, impl.MaxRow, impl.MaxRow + 1, -1, math.MinInt, math.MaxInt, row} {
			if got := impl.CellOf(row, place); got != -1 {
				t.Errorf("CellOf(%d, %d) = %d, want -1", row, place, got)
			}
		}
	}
	for row := range impl.MaxRow + 1 {
		for _, place := range []int{-1, -2, -row - 1, math.MinInt} {
			if got := impl.CellOf(row, place); got != -1 {
				t.Errorf("CellOf(%d, %d) = %d, want -1", row, place, got)
			}
		}
	}
}

// Promise 3: slopes add up to the cell beside.

func TestSlopeOfIsTheCellBeside(t *testing.T) {
	for row := range impl.MaxRow {
		for place := range impl.MaxRow + 1 {
			got := impl.SlopeOf(row, place)
			if want := impl.CellOf(row+1, place+1); got != want {
				t.Errorf("SlopeOf(%d, %d) = %d, want the cell %d", row, place, got, want)
			}
			if want := cellByFactors(row+1, place+1); got != want {
				t.Errorf("SlopeOf(%d, %d) = %d, want %d", row, place, got, want)
			}
		}
	}
}

func TestSlopeOfKnownSums(t *testing.T) {
	known := []struct{ row, place, want int }{
		{0, 0, 1}, {0, 1, 0}, {1, 0, 2}, {1, 1, 1}, {5, 2, 20}, {4, 4, 1}, {4, 5, 0}, {59, 0, 60}, {59, 59, 1}, {59, 60, 0}, {0, 60, 0}, {59, 29, 118264581564861424},
	}
	for _, k := range known {
		if got := impl.SlopeOf(k.row, k.place); got != k.want {
			t.Errorf("SlopeOf(%d, %d) = %d, want %d", k.row, k.place, got, k.want)
		}
	}
}

func TestSlopeOfOthers(t *testing.T) {
	for _, row := range outside(impl.MaxRow - 1) {
		for _, place := range []int{0, 1, impl.MaxRow, impl.MaxRow + 1, -1} {
			if got := impl.SlopeOf(row, place); got != -1 {
				t.Errorf("SlopeOf(%d, %d) = %d, want -1", row, place, got)
			}
		}
	}
	for _, place := range outside(impl.MaxRow) {
		for row := range impl.MaxRow {
			if got := impl.SlopeOf(row, place); got != -1 {
				t.Errorf("SlopeOf(%d, %d) = %d, want -1", row, place, got)
			}
		}
	}
}

// Promise 4: two heaps are one.

func TestHeapsOfIsOneHeap(t *testing.T) {
	for a := range 31 {
		for b := range 31 {
			for chosen := range 61 {
				got := impl.HeapsOf(a, b, chosen)
				if want := impl.CellOf(a+b, chosen); got != want {
					t.Errorf("HeapsOf(%d, %d, %d) = %d, want the cell %d", a, b, chosen, got, want)
				}
				if want := cellByFactors(a+b, chosen); got != want {
					t.Errorf("HeapsOf(%d, %d, %d) = %d, want %d", a, b, chosen, got, want)
				}
			}
		}
	}
}

func TestHeapsOfKnownSums(t *testing.T) {
	known := []struct{ a, b, chosen, want int }{
		{0, 0, 0, 1}, {0, 0, 1, 0}, {0, 0, 60, 0}, {3, 4, 2, 21}, {3, 4, 7, 1}, {3, 4, 8, 0}, {0, 30, 15, 155117520}, {30, 0, 15, 155117520}, {30, 0, 31, 0}, {30, 30, 0, 1}, {30, 30, 30, 118264581564861424}, {30, 30, 60, 1},
	}
	for _, k := range known {
		if got := impl.HeapsOf(k.a, k.b, k.chosen); got != k.want {
			t.Errorf("HeapsOf(%d, %d, %d) = %d, want %d", k.a, k.b, k.chosen, got, k.want)
		}
	}
}

func TestHeapsOfOthers(t *testing.T) {
	check := func(a, b, chosen int) {
		t.Helper()
		if got := impl.HeapsOf(a, b, chosen); got != -1 {
			t.Errorf("HeapsOf(%d, %d, %d) = %d, want -1", a, b, chosen, got)
		}
	}
	for _, heap := range outside(30) {
		for _, other := range []int{0, 1, 15, 30} {
			for _, chosen := range []int{0, 1, 30, 60} {
				check(heap, other, chosen)
				check(other, heap, chosen)
			}
		}
		check(heap, heap, 0)
		check(heap, heap, -1)
	}
	for _, chosen := range outside(60) {
		for _, a := range []int{0, 1, 30} {
			for _, b := range []int{0, 1, 30} {
				check(a, b, chosen)
			}
		}
	}
}

// Promise 5: signs that take turns leave one cell.

func TestTurnsOfLeavesOneCell(t *testing.T) {
	for row := 1; row <= impl.MaxRow; row++ {
		for place := range impl.MaxRow + 1 {
			got, ok := impl.TurnsOf(row, place)
			if want := signOf(place) * impl.CellOf(row-1, place); got != want || !ok {
				t.Errorf("TurnsOf(%d, %d) = %d, %v, want the cell %d, true", row, place, got, ok, want)
			}
			if want := signOf(place) * cellByFactors(row-1, place); got != want {
				t.Errorf("TurnsOf(%d, %d) = %d, want %d", row, place, got, want)
			}
		}
	}
}

func TestTurnsOfWholeRow(t *testing.T) {
	for row := range impl.MaxRow + 1 {
		want := 0
		if row == 0 { // 1 alone, from which nothing is taken
			want = 1
		}
		for place := row; place <= impl.MaxRow; place++ {
			if got, ok := impl.TurnsOf(row, place); got != want || !ok {
				t.Errorf("TurnsOf(%d, %d) = %d, %v, want %d, true", row, place, got, ok, want)
			}
		}
	}
}

func TestTurnsOfKnownSums(t *testing.T) {
	known := []struct{ row, place, want int }{
		{0, 0, 1}, {1, 0, 1}, {1, 1, 0}, {6, 2, 10}, {6, 3, -10}, {6, 6, 0}, {6, 7, 0}, {60, 0, 1}, {60, 1, -59}, {60, 59, -1}, {60, 60, 0},
	}
	for _, k := range known {
		if got, ok := impl.TurnsOf(k.row, k.place); got != k.want || !ok {
			t.Errorf("TurnsOf(%d, %d) = %d, %v, want %d, true", k.row, k.place, got, ok, k.want)
		}
	}
}

func TestTurnsOfOthers(t *testing.T) {
	for _, bad := range outside(impl.MaxRow) {
		for _, good := range []int{0, 1, 6, impl.MaxRow, bad} {
			if got, ok := impl.TurnsOf(bad, good); got != 0 || ok {
				t.Errorf("TurnsOf(%d, %d) = %d, %v, want 0, false", bad, good, got, ok)
			}
			if got, ok := impl.TurnsOf(good, bad); got != 0 || ok {
				t.Errorf("TurnsOf(%d, %d) = %d, %v, want 0, false", good, bad, got, ok)
			}
		}
	}
}
