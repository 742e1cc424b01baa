package tests

import (
	"slices"
	"strconv"
	"strings"
	"testing"

	"loop.example/carrytriangles/impl"
)

// mostCorner is the greatest row at which a triangle begins.
const mostCorner = 100000

// leftBySums makes what a prime leaves of all cells of the rows from 0 up to a row: by sums, without digits and without the program.
func leftBySums(row, p int) [][]int {
	rows := [][]int{{1}}
	for range row {
		last := rows[len(rows)-1]
		next := append(slices.Clone(last), 0)
		for place, cell := range last {
			next[place+1] = (next[place+1] + cell) % p
		}
		rows = append(rows, next)
	}
	return rows
}

// cut returns the cells of so many rows, from a row on, at so many places, from a place on, out of all rows; beyond these there are noughts.
func cut(all [][]int, row, place, rows int) [][]int {
	cells := make([][]int, rows)
	for further := range cells {
		cells[further] = make([]int, rows)
		if place < len(all[row+further]) {
			copy(cells[further], all[row+further][place:])
		}
	}
	return cells
}

// patch makes what a prime leaves of the same cells far down: of the first row by products, and of the further ones by sums.
func patch(row, place, rows, p int) [][]int {
	// The last row is told by sums of cells as many places before as there are further rows.
	var line []int
	for at := place - rows + 1; at < place+rows; at++ {
		left := 0
		if at >= 0 {
			left = leftByProducts(row, at, p)
		}
		line = append(line, left)
	}
	var cells [][]int
	for range rows {
		cells = append(cells, slices.Clone(line[rows-1:]))
		for at := len(line) - 1; at > 0; at-- {
			line[at] = (line[at] + line[at-1]) % p
		}
	}
	return cells
}

// timesFirst reports whether the first rows of cells begin with the first triangle, times a number.
func timesFirst(cells, first [][]int, rows, times, p int) bool {
	for row := range rows {
		for place, cell := range first[row] {
			if cells[row][place] != times*cell%p {
				return false
			}
		}
	}
	return true
}

// allDivided reports whether nothing is left of the cells from the one below each other's end on.
func allDivided(cells [][]int, rows int) bool {
	for row := range rows {
		for _, cell := range cells[row][row:rows] {
			if cell != 0 {
				return false
			}
		}
	}
	return true
}

// writtenMark writes what is left as the library writes a digit, or a point.
func writtenMark(left int) string {
	if left == 0 {
		return "."
	}
	return strconv.FormatInt(int64(left), impl.MaxBase)
}

// drawn returns the picture of rows.
func drawn(rows [][]int) string {
	picture := ""
	for _, row := range rows {
		for _, cell := range row {
			picture += writtenMark(cell)
		}
		picture += "\n"
	}
	return picture
}

// otherDrawn returns numbers of rows that are not drawn.
func otherDrawn() []int {
	return append(outside(impl.MaxDrawn), 0)
}

// someDrawn returns some numbers of rows that are drawn: the least one, the greatest one, and those around powers of a prime.
func someDrawn(p int) []int {
	rows := []int{1, impl.MaxDrawn - 1, impl.MaxDrawn}
	for _, power := range powersUpTo(p, impl.MaxDrawn)[1:] {
		rows = append(rows, power-1, power, min(power+1, impl.MaxDrawn))
	}
	slices.Sort(rows)
	return slices.Compact(rows)
}

// checkMark holds a mark against products, against what is under the row, and against the other end of it.
func checkMark(t *testing.T, row, place, p int) {
	t.Helper()
	got := impl.MarkAt(row, place, p)
	if want := writtenMark(leftByProducts(row, place, p)); got != want {
		t.Errorf("MarkAt(%d, %d, %d) = %q, want %q", row, place, p, got, want)
	}
	if under := impl.UnderOk(place, row, p); (got == ".") == under {
		t.Errorf("MarkAt(%d, %d, %d) = %q, but the place is under the row: %v", row, place, p, got, under)
	}
	if other := impl.MarkAt(row, row-place, p); got != other {
		t.Errorf("MarkAt(%d, %d, %d) = %q, but %q from the other end", row, place, p, got, other)
	}
}

// Promise 23: points are what is divided.

func TestMarkAtKnown(t *testing.T) {
	known := []struct {
		row, place, p int
		want          string
	}{
		{0, 0, 2, "1"}, {0, 0, 3, "1"}, {0, 0, 5, "1"}, {0, 0, 7, "1"}, {0, 0, 11, "1"}, {0, 0, 13, "1"}, {1, 0, 2, "1"}, {1, 1, 2, "1"}, {2, 1, 2, "."}, {2, 1, 3, "2"}, {3, 1, 3, "."}, {4, 2, 5, "1"}, {4, 1, 5, "4"}, {5, 1, 5, "."},
		{6, 1, 7, "6"}, {9, 1, 11, "9"}, {10, 1, 11, "a"}, {11, 1, 11, "."}, {9, 1, 13, "9"}, {10, 1, 13, "a"}, {11, 1, 13, "b"}, {12, 1, 13, "c"}, {12, 6, 13, "1"}, {12, 11, 13, "c"}, {13, 1, 13, "."}, {14, 1, 13, "1"},
		{10, 5, 13, "5"}, {1000, 300, 2, "."}, {1000, 300, 7, "1"}, {1000, 300, 13, "a"}, {100000, 99968, 2, "1"}, {100000, 99968, 7, "4"}, {100000, 99968, 11, "6"}, {100000, 99968, 13, "."},
		{536870911, 268435456, 2, "1"}, {536870912, 268435456, 2, "."}, {387420488, 1, 3, "2"}, {387420489, 1, 3, "."}, {815730720, 1, 13, "c"}, {815730721, 1, 13, "."}, {815730720, 1, 11, "2"}, {387420488, 1, 5, "3"},
		{999999999, 0, 2, "1"}, {999999999, 999999999, 2, "1"}, {999999999, 1, 2, "1"}, {999999999, 999999998, 2, "1"}, {999999999, 499999999, 2, "."}, {999999998, 1, 2, "."}, {999999999, 0, 3, "1"}, {999999999, 999999999, 3, "1"},
		{999999999, 1, 3, "."}, {999999998, 1, 3, "2"}, {999999999, 1, 5, "4"}, {999999999, 999999998, 5, "4"}, {999999999, 499999999, 5, "2"}, {999999999, 1, 7, "5"}, {999999999, 2, 7, "3"}, {999999999, 1, 11, "9"},
		{999999999, 999999999, 11, "1"}, {999999999, 1, 13, "b"}, {999999999, 999999998, 13, "b"}, {999999998, 1, 13, "a"}, {999999999, 2, 13, "3"}, {999999999, 333333333, 13, "."}, {999999999, 999999999, 13, "1"},
		{926756582, 84741634, 2, "1"}, {255512575, 76764691, 3, "2"}, {195065243, 82157012, 5, "3"}, {588136138, 588017753, 7, "6"}, {350354820, 298931470, 11, "8"}, {278108254, 150376163, 13, "c"}, {734612082, 565283882, 13, "b"},
	}
	for _, k := range known {
		if got := impl.MarkAt(k.row, k.place, k.p); got != k.want {
			t.Errorf("MarkAt(%d, %d, %d) = %q, want %q", k.row, k.place, k.p, got, k.want)
		}
	}
}

func TestMarkAtIsWhatIsLeft(t *testing.T) {
	for _, p := range primes() {
		for row, cells := range leftBySums(mostLeftRow, p) {
			for place, cell := range cells {
				got := impl.MarkAt(row, place, p)
				if want := writtenMark(cell); got != want {
					t.Errorf("MarkAt(%d, %d, %d) = %q, want %q", row, place, p, got, want)
				}
				if (got == ".") == impl.UnderOk(place, row, p) {
					t.Errorf("MarkAt(%d, %d, %d) = %q, but the place is under the row: %v", row, place, p, got, got == ".")
				}
				if other := impl.MarkAt(row, row-place, p); got != other {
					t.Errorf("MarkAt(%d, %d, %d) = %q, but %q from the other end", row, place, p, got, other)
				}
			}
		}
	}
}

// Each digit less than the prime is a mark, far up and far down.
func TestMarkAtHasAllMarks(t *testing.T) {
	for _, p := range primes() {
		want := ".123456789abc"[:p]
		for _, power := range powersUpTo(p, impl.MaxNumber/p) {
			got := impl.MarkAt(p*power, power, p)
			for digit := 1; digit < p; digit++ {
				got += impl.MarkAt(digit*power, power, p)
			}
			if got != want {
				t.Errorf("the marks at the place %d for %d are %q, want %q", power, p, got, want)
			}
		}
	}
}

func TestMarkAtFarDown(t *testing.T) {
	for _, p := range primes() {
		for _, row := range deepRows(p) {
			for _, place := range placesUnder(row, p) {
				checkMark(t, row, place, p)
			}
			for _, place := range []int{0, 1, 2, p, row / 3, row / 2, row - p, row - 1, row} {
				if 0 <= place && place <= row {
					checkMark(t, row, place, p)
				}
			}
		}
	}
}

func TestMarkAtAroundPowers(t *testing.T) {
	for _, p := range primes() {
		for _, power := range powersUpTo(p, impl.MaxNumber) {
			for _, place := range numbersFor(p, power) {
				want := "."
				if place == 0 || place == power {
					want = "1"
				}
				if got := impl.MarkAt(power, place, p); got != want {
					t.Errorf("MarkAt(%d, %d, %d) = %q, want %q", power, place, p, got, want)
				}
			}
			for _, place := range numbersFor(p, power-1) {
				want := "1"
				if place%2 == 1 {
					want = writtenMark(p - 1)
				}
				if got := impl.MarkAt(power-1, place, p); got != want {
					t.Errorf("MarkAt(%d, %d, %d) = %q, want %q", power-1, place, p, got, want)
				}
			}
		}
	}
}

func TestMarkAtOthers(t *testing.T) {
	check := func(row, place, p int) {
		t.Helper()
		if got := impl.MarkAt(row, place, p); got != "" {
			t.Errorf("MarkAt(%d, %d, %d) = %q, want nothing", row, place, p, got)
		}
	}
	checkOthers(func(row, p int) {
		for _, place := range []int{0, 1, row / 2, row - 1, row, row + 1, -1} {
			check(row, place, p)
		}
	})
	for _, p := range primes() {
		for _, row := range []int{0, 1, 2, 7, 8, 80, 81, 300, 536870911, impl.MaxNumber - 1, impl.MaxNumber} {
			for _, place := range append(outside(row), p*(row+1), row+p*p, impl.MaxNumber+1) {
				if place > row || place < 0 {
					check(row, place, p)
				}
			}
		}
	}
}

// Promise 24: pictures have as many marks as cells are left.

func TestGreatestPicture(t *testing.T) {
	if impl.MaxDrawn != 64 {
		t.Errorf("MaxDrawn = %d, want 64", impl.MaxDrawn)
	}
}

func TestPictureOfKnown(t *testing.T) {
	known := []struct {
		rows, p int
		want    string
	}{
		{1, 2, "1\n"}, {1, 3, "1\n"}, {1, 5, "1\n"}, {1, 7, "1\n"}, {1, 11, "1\n"}, {1, 13, "1\n"}, {2, 2, "1\n11\n"}, {2, 13, "1\n11\n"}, {3, 2, "1\n11\n1.1\n"}, {3, 3, "1\n11\n121\n"}, {3, 13, "1\n11\n121\n"},
		{8, 2, "1\n11\n1.1\n1111\n1...1\n11..11\n1.1.1.1\n11111111\n"},
		{9, 3, "1\n11\n121\n1..1\n11.11\n121121\n1..2..1\n11.22.11\n121212121\n"},
		{10, 5, "1\n11\n121\n1331\n14141\n1....1\n11...11\n121..121\n1331.1331\n1414114141\n"},
		{8, 7, "1\n11\n121\n1331\n14641\n153351\n1616161\n1......1\n"},
		{12, 11, "1\n11\n121\n1331\n14641\n15aa51\n1649461\n17a22a71\n186141681\n1937557391\n1a1a1a1a1a1\n1..........1\n"},
		{14, 13, "1\n11\n121\n1331\n14641\n15aa51\n1627261\n17899871\n182454281\n19a6996a91\n1a6325236a1\n1b39577593b1\n1c1c1c1c1c1c1\n1............1\n"},
	}
	for _, k := range known {
		if got := impl.PictureOf(k.rows, k.p); got != k.want {
			t.Errorf("PictureOf(%d, %d) = %q, want %q", k.rows, k.p, got, k.want)
		}
	}
}

func TestPictureOfIsAllMarks(t *testing.T) {
	for _, p := range primes() {
		all := leftBySums(impl.MaxDrawn, p)
		for rows := 1; rows <= impl.MaxDrawn; rows++ {
			got := impl.PictureOf(rows, p)
			if want := drawn(all[:rows]); got != want {
				t.Errorf("PictureOf(%d, %d) = %q, want %q", rows, p, got, want)
			}
			marks := ""
			for row := range rows {
				for place := range row + 1 {
					marks += impl.MarkAt(row, place, p)
				}
				marks += "\n"
			}
			if got != marks {
				t.Errorf("PictureOf(%d, %d) = %q, but the marks are %q", rows, p, got, marks)
			}
		}
	}
}

func TestPictureOfMarksAreCounted(t *testing.T) {
	for _, p := range primes() {
		for rows := 1; rows <= impl.MaxDrawn; rows++ {
			picture := impl.PictureOf(rows, p)
			lines := strings.Split(picture, "\n")
			if len(lines) != rows+1 || lines[rows] != "" {
				t.Fatalf("PictureOf(%d, %d) has %d rows", rows, p, len(lines)-1)
			}
			for row, line := range lines[:rows] {
				if len(line) != row+1 {
					t.Errorf("PictureOf(%d, %d): %d marks in the row %d, want %d", rows, p, len(line), row, row+1)
				}
				back := []byte(line)
				slices.Reverse(back)
				if line != string(back) {
					t.Errorf("PictureOf(%d, %d): the row %d is %q, but %q from the other end", rows, p, row, line, back)
				}
			}
			marks := len(picture) - strings.Count(picture, ".") - strings.Count(picture, "\n")
			if want := impl.LeftUpTo(rows, p); marks != want {
				t.Errorf("PictureOf(%d, %d) has %d marks but points, want %d", rows, p, marks, want)
			}
		}
	}
}

func TestPictureOfOthers(t *testing.T) {
	for _, rows := range otherDrawn() {
		for _, p := range append(primes(), noPrimes()...) {
			if got := impl.PictureOf(rows, p); got != "" {
				t.Errorf("PictureOf(%d, %d) = %q, want nothing", rows, p, got)
			}
		}
	}
	for _, p := range noPrimes() {
		for rows := range impl.MaxDrawn + 1 {
			if got := impl.PictureOf(rows, p); got != "" {
				t.Errorf("PictureOf(%d, %d) = %q, want nothing", rows, p, got)
			}
		}
	}
}

func TestPicturesAreNewMemory(t *testing.T) {
	for _, p := range primes() {
		picture, mark := impl.PictureOf(impl.MaxDrawn, p), impl.MarkAt(p-1, 1, p)
		spoilt := append([]byte(picture), mark...)
		for place := range spoilt {
			spoilt[place] = '#'
		}
		if again := impl.PictureOf(impl.MaxDrawn, p); again != picture || again != drawn(leftBySums(impl.MaxDrawn-1, p)) {
			t.Errorf("PictureOf(%d, %d) = %q after a result was written to, want %q", impl.MaxDrawn, p, again, picture)
		}
		if again := impl.MarkAt(p-1, 1, p); again != mark || again != writtenMark(p-1) {
			t.Errorf("MarkAt(%d, 1, %d) = %q after a result was written to, want %q", p-1, p, again, mark)
		}
	}
}

// Promise 25: cells stand for triangles.

func TestTriangleOkKnown(t *testing.T) {
	known := []struct {
		row, place, rows, times, p int
		want                       bool
	}{
		{0, 0, 1, 1, 2, true}, {0, 0, 1, 0, 2, false}, {0, 0, 64, 1, 2, true}, {0, 0, 64, 1, 13, true}, {0, 0, 64, 12, 13, false}, {0, 0, 64, 0, 13, false}, {1, 0, 1, 1, 2, true}, {1, 0, 2, 1, 2, false}, {2, 0, 2, 1, 2, true},
		{2, 0, 3, 1, 2, false}, {2, 1, 1, 0, 2, true}, {2, 1, 2, 0, 2, false}, {6, 3, 3, 2, 3, true}, {6, 3, 3, 1, 3, false}, {6, 3, 4, 2, 3, false}, {6, 3, 2, 2, 3, true}, {64, 0, 64, 1, 2, true}, {64, 64, 64, 1, 2, true},
		{64, 32, 32, 0, 2, true}, {64, 32, 33, 0, 2, false}, {64, 1, 64, 0, 2, false}, {26, 13, 13, 2, 13, true}, {26, 13, 13, 1, 13, false}, {26, 13, 14, 2, 13, false}, {65, 26, 13, 10, 13, true}, {156, 13, 13, 12, 13, true},
		{132, 11, 11, 1, 11, true}, {110, 11, 11, 10, 11, true}, {120, 11, 11, 10, 11, false}, {99936, 0, 32, 1, 2, true}, {99968, 0, 64, 1, 2, true}, {99968, 99968, 64, 1, 2, true}, {99968, 64, 64, 1, 2, false}, {99968, 64, 64, 0, 2, true},
		{99946, 0, 49, 1, 7, false}, {99990, 0, 11, 1, 11, true}, {99996, 0, 13, 1, 13, true}, {100000, 0, 32, 1, 2, true}, {100000, 0, 33, 1, 2, false}, {100000, 0, 64, 1, 2, false}, {100000, 100000, 32, 1, 2, true},
		{100000, 0, 10, 1, 3, false}, {100000, 0, 1, 1, 3, true}, {100000, 50000, 1, 0, 3, true}, {100000, 0, 25, 1, 5, true}, {100000, 0, 64, 1, 5, true}, {100000, 100000, 64, 1, 5, true}, {100000, 0, 2, 1, 7, false},
		{100000, 3125, 64, 2, 5, true}, {100000, 3125, 64, 1, 5, false}, {100000, 6250, 64, 1, 5, true}, {100000, 6250, 64, 0, 5, false},
	}
	for _, k := range known {
		if got := impl.TriangleOk(k.row, k.place, k.rows, k.times, k.p); got != k.want {
			t.Errorf("TriangleOk(%d, %d, %d, %d, %d) = %v, want %v", k.row, k.place, k.rows, k.times, k.p, got, k.want)
		}
	}
}

// Where a row and a place are a power of the prime times another row and place, the triangle of as many rows as the power is what is left of that other cell, times the first one, and no other number times it.
func TestTriangleOkCellsStandForTriangles(t *testing.T) {
	for _, p := range primes() {
		for _, power := range powersUpTo(p, impl.MaxDrawn) {
			for row := range 14 {
				for place := range row + 1 {
					left := impl.LeftOf(row, place, p)
					for times := range p {
						if got, want := impl.TriangleOk(row*power, place*power, power, times, p), times == left; got != want {
							t.Errorf("TriangleOk(%d, %d, %d, %d, %d) = %v, want %v", row*power, place*power, power, times, p, got, want)
						}
					}
				}
			}
		}
	}
}

func TestTriangleOkAtAllCells(t *testing.T) {
	for _, p := range primes() {
		all, first := leftBySums(140, p), leftBySums(impl.MaxDrawn, p)
		for row := range 71 {
			for place := range row + 1 {
				cells := cut(all, row, place, impl.MaxDrawn)
				for _, rows := range someDrawn(p) {
					for times := range p {
						if got, want := impl.TriangleOk(row, place, rows, times, p), timesFirst(cells, first, rows, times, p); got != want {
							t.Errorf("TriangleOk(%d, %d, %d, %d, %d) = %v, want %v", row, place, rows, times, p, got, want)
						}
					}
				}
			}
		}
	}
}

// lastCorners returns rows around the greatest one at which a triangle begins: it, and the last ones that a power of the prime divides.
func lastCorners(p int) []int {
	rows := []int{mostCorner, mostCorner - 1}
	for _, power := range powersUpTo(p, mostCorner) {
		rows = append(rows, mostCorner-mostCorner%power)
	}
	slices.Sort(rows)
	return slices.Compact(rows)
}

// sidePlaces returns places of a row at both sides, in the middle, and where a power of the prime divides them.
func sidePlaces(row, p int) []int {
	places := []int{0, 1, row / 2, row - 1, row}
	for _, power := range powersUpTo(p, row) {
		places = append(places, power, row-power, row/2/power*power+1)
	}
	slices.Sort(places)
	return slices.Compact(places)
}

func TestTriangleOkFarDown(t *testing.T) {
	for _, p := range primes() {
		first := leftBySums(impl.MaxDrawn, p)
		held := 0
		for _, row := range lastCorners(p) {
			for _, place := range sidePlaces(row, p) {
				cells := patch(row, place, impl.MaxDrawn, p)
				for _, rows := range someDrawn(p) {
					for _, times := range []int{0, 1, p - 1, cells[0][0]} {
						want := timesFirst(cells, first, rows, times, p)
						if got := impl.TriangleOk(row, place, rows, times, p); got != want {
							t.Errorf("TriangleOk(%d, %d, %d, %d, %d) = %v, want %v", row, place, rows, times, p, got, want)
						}
						if other := impl.TriangleOk(row, row-place, rows, times, p); other != want {
							t.Errorf("TriangleOk(%d, %d, %d, %d, %d) = %v, but %v from the other end", row, row-place, rows, times, p, other, want)
						}
						if want && rows > p {
							held++
						}
					}
				}
			}
		}
		if held < 20 {
			t.Errorf("only %d triangles of more than %d rows held", held, p)
		}
	}
}

// A triangle of one row is one cell.
func TestTriangleOkOfOneRow(t *testing.T) {
	for _, p := range primes() {
		for _, row := range []int{0, 1, p - 1, p, p + 1, p*p - 1, 1000, 99999, mostCorner} {
			for _, place := range sidePlaces(row, p) {
				if place < 0 || place > row {
					continue
				}
				left := leftByProducts(row, place, p)
				for times := range p {
					if got, want := impl.TriangleOk(row, place, 1, times, p), times == left; got != want {
						t.Errorf("TriangleOk(%d, %d, 1, %d, %d) = %v, want %v", row, place, times, p, got, want)
					}
				}
			}
		}
	}
}

// At both sides one row more than the power is too many, but for a row before that leaves nothing: at the left side the last cell of the last row is unlike alone, and at the right side the first one.
func TestTriangleOkAtSides(t *testing.T) {
	for _, p := range primes() {
		for rows := 1; rows <= impl.MaxDrawn; rows++ {
			if !impl.TriangleOk(0, 0, rows, 1, p) {
				t.Errorf("TriangleOk(0, 0, %d, 1, %d) = false, want true", rows, p)
			}
		}
		for _, power := range powersUpTo(p, impl.MaxDrawn-1) {
			for times := range 2*p + 1 {
				for _, row := range []int{times * power, times*power + p*p*power} {
					want := times%p == 0
					for _, place := range []int{0, row} {
						if !impl.TriangleOk(row, place, power, 1, p) {
							t.Errorf("TriangleOk(%d, %d, %d, 1, %d) = false, want true", row, place, power, p)
						}
						if got := impl.TriangleOk(row, place, power+1, 1, p); got != want {
							t.Errorf("TriangleOk(%d, %d, %d, 1, %d) = %v, want %v", row, place, power+1, p, got, want)
						}
					}
				}
			}
		}
	}
}

func TestTriangleOkOthers(t *testing.T) {
	check := func(row, place, rows, times, p int) {
		t.Helper()
		if impl.TriangleOk(row, place, rows, times, p) {
			t.Errorf("TriangleOk(%d, %d, %d, %d, %d) = true, want false", row, place, rows, times, p)
		}
	}
	for _, p := range primes() {
		// Each of these would hold if the one argument that is not allowed were.
		for _, row := range append(outside(mostCorner), 531441, 1000000, impl.MaxNumber) {
			check(row, 0, 1, 1, p)
			check(row, row, 1, 1, p)
			check(row, row+1, 1, 0, p)
			check(row, -1, 1, 0, p)
		}
		for _, row := range []int{0, 1, 6, p, p * p, 99999, mostCorner} {
			for _, place := range append(outside(row), p*(row+1), row+p*p, impl.MaxNumber) {
				for times := range p {
					check(row, place, 1, times, p)
				}
			}
		}
		for _, rows := range otherDrawn() {
			check(0, 0, rows, 1, p)
			check(p*p*p*p, 0, rows, 1, p)
			check(p*p*p*p, p*p*p*p, rows, 0, p)
		}
		for _, times := range append(outside(p-1), 1-p, 2*p, 2*p+1, -p, -p*p, p*p, p*p+1) {
			check(0, 0, 1, times, p)
			check(0, 0, impl.MaxDrawn, times, p)
			check(p, 1, 1, times, p)
			check(p*p, p, p, times, p)
		}
	}
	for _, p := range noPrimes() {
		for _, row := range []int{0, 1, 4, 16, 64, 289, mostCorner} {
			for _, times := range []int{-1, 0, 1, p - 1} {
				check(row, 0, 1, times, p)
				check(row, row, 1, times, p)
				check(row, row/2, 1, times, p)
				check(0, 0, impl.MaxDrawn, times, p)
			}
		}
	}
}

// Promise 26: between triangles all is divided.

func TestGapOkKnown(t *testing.T) {
	known := []struct {
		row, place, rows, p int
		want                bool
	}{
		{0, 0, 1, 2, false}, {0, 0, 64, 2, false}, {1, 1, 64, 13, false}, {2, 1, 1, 2, true}, {4, 1, 3, 2, true}, {4, 0, 3, 2, false}, {4, 1, 4, 2, false}, {4, 2, 3, 2, false}, {4, 2, 2, 2, true}, {4, 3, 1, 2, true}, {4, 3, 2, 2, false},
		{4, 4, 1, 2, false}, {64, 1, 63, 2, true}, {64, 1, 64, 2, false}, {128, 1, 64, 2, true}, {128, 64, 64, 2, true}, {128, 65, 64, 2, false}, {128, 0, 64, 2, false}, {128, 1, 63, 2, true}, {81, 1, 64, 3, true}, {81, 17, 64, 3, true},
		{81, 18, 64, 3, false}, {13, 1, 12, 13, true}, {13, 1, 13, 13, false}, {13, 2, 11, 13, true}, {26, 14, 12, 13, true}, {26, 1, 12, 13, true}, {26, 13, 12, 13, false}, {22, 1, 10, 11, true}, {22, 1, 11, 11, false}, {14, 8, 6, 7, true},
		{99968, 1, 63, 2, true}, {99968, 1, 64, 2, true}, {99968, 65, 63, 2, true}, {99968, 65, 64, 2, false}, {100000, 0, 1, 2, false}, {100000, 1, 31, 2, true}, {100000, 1, 32, 2, false}, {100000, 33, 31, 2, true}, {100000, 99969, 31, 2, true},
		{100000, 99968, 31, 2, false}, {100000, 99969, 32, 2, false}, {100000, 100000, 1, 2, false}, {100000, 50000, 1, 3, true}, {100000, 50000, 64, 3, true}, {100000, 1, 64, 5, true}, {100000, 3061, 64, 5, true}, {100000, 3062, 64, 5, false},
		{100000, 99936, 64, 5, true}, {100000, 99937, 64, 5, false}, {100000, 99875, 64, 5, true},
	}
	for _, k := range known {
		if got := impl.GapOk(k.row, k.place, k.rows, k.p); got != k.want {
			t.Errorf("GapOk(%d, %d, %d, %d) = %v, want %v", k.row, k.place, k.rows, k.p, got, k.want)
		}
	}
}

// Between two triangles of as many rows as a power of the prime is a gap of one row fewer; one that is a row greater, or begins a place before, touches them, unless what is left of the cell for which that triangle stands is nothing.
func TestGapOkBetweenTriangles(t *testing.T) {
	for _, p := range primes() {
		for _, power := range powersUpTo(p, impl.MaxDrawn)[1:] {
			for row := 1; row <= 13; row++ {
				cells := leftBySums(row, p)[row]
				for place := range row {
					top, from := row*power, place*power+1
					if !impl.GapOk(top, from, power-1, p) {
						t.Errorf("GapOk(%d, %d, %d, %d) = false, want true", top, from, power-1, p)
					}
					if got, want := impl.GapOk(top, from, power, p), cells[place+1] == 0; got != want {
						t.Errorf("GapOk(%d, %d, %d, %d) = %v, want %v", top, from, power, p, got, want)
					}
					for _, rows := range []int{1, power - 1, power} {
						if got, want := impl.GapOk(top, from-1, rows, p), cells[place] == 0; got != want {
							t.Errorf("GapOk(%d, %d, %d, %d) = %v, want %v", top, from-1, rows, p, got, want)
						}
					}
				}
			}
		}
	}
}

func TestGapOkAtAllCells(t *testing.T) {
	for _, p := range primes() {
		all := leftBySums(170, p)
		for row := range 101 {
			for place := range row + 1 {
				cells := cut(all, row, place, impl.MaxDrawn)
				for _, rows := range someDrawn(p) {
					if got, want := impl.GapOk(row, place, rows, p), allDivided(cells, rows); got != want {
						t.Errorf("GapOk(%d, %d, %d, %d) = %v, want %v", row, place, rows, p, got, want)
					}
				}
			}
		}
	}
}

func TestGapOkFarDown(t *testing.T) {
	for _, p := range primes() {
		held := 0
		for _, row := range lastCorners(p) {
			for _, place := range sidePlaces(row, p) {
				cells := patch(row, place, impl.MaxDrawn, p)
				for _, rows := range someDrawn(p) {
					want := allDivided(cells, rows)
					if got := impl.GapOk(row, place, rows, p); got != want {
						t.Errorf("GapOk(%d, %d, %d, %d) = %v, want %v", row, place, rows, p, got, want)
					}
					if want && rows >= p {
						held++
					}
					if place+rows > row {
						continue
					}
					if other := impl.GapOk(row, row-place-rows+1, rows, p); other != want {
						t.Errorf("GapOk(%d, %d, %d, %d) = %v, but %v from the other end", row, row-place-rows+1, rows, p, other, want)
					}
				}
			}
		}
		if held < 20 {
			t.Errorf("only %d gaps of %d rows or more held", held, p)
		}
	}
}

// A triangle that reaches beyond the side of the picture has the last cell of the row, which is 1; cells beyond that are 0, which the prime divides.
func TestGapOkBeyondTheSide(t *testing.T) {
	for _, p := range primes() {
		power := slices.Max(powersUpTo(p, mostCorner))
		for _, row := range []int{0, 1, 2, p, p * p, power, mostCorner} {
			for rows := 1; rows <= impl.MaxDrawn; rows++ {
				for place := max(row-rows+1, 0); place <= row; place++ {
					if impl.GapOk(row, place, rows, p) {
						t.Errorf("GapOk(%d, %d, %d, %d) = true, want false", row, place, rows, p)
					}
				}
				if impl.GapOk(row, 0, rows, p) {
					t.Errorf("GapOk(%d, 0, %d, %d) = true, want false", row, rows, p)
				}
			}
		}
		for rows := 1; rows <= impl.MaxDrawn; rows++ {
			for _, place := range []int{1, power/2 - rows/2, power - rows} {
				if !impl.GapOk(power, place, rows, p) {
					t.Errorf("GapOk(%d, %d, %d, %d) = false, want true", power, place, rows, p)
				}
			}
		}
	}
}

func TestGapOkOthers(t *testing.T) {
	check := func(row, place, rows, p int) {
		t.Helper()
		if impl.GapOk(row, place, rows, p) {
			t.Errorf("GapOk(%d, %d, %d, %d) = true, want false", row, place, rows, p)
		}
	}
	for _, p := range primes() {
		// Many of these would hold if the one argument that is not allowed were.
		greater := slices.Max(powersUpTo(p, impl.MaxNumber))
		for _, row := range append(outside(mostCorner), greater, 1000000, impl.MaxNumber) {
			for _, rows := range []int{1, 2, impl.MaxDrawn} {
				for _, place := range []int{1, 2, p, row / 2, row + 1, -1, 0} {
					check(row, place, rows, p)
				}
			}
		}
		for _, row := range []int{0, 1, 4, p, p * p, 99999, mostCorner} {
			for _, place := range append(outside(row), p*(row+1), row+p*p, impl.MaxNumber) {
				for _, rows := range []int{1, 2, impl.MaxDrawn} {
					check(row, place, rows, p)
				}
			}
		}
		power := slices.Max(powersUpTo(p, mostCorner))
		for _, rows := range otherDrawn() {
			check(power, 1, rows, p)
			check(power, power/2, rows, p)
			check(p, 1, rows, p)
			check(0, 0, rows, p)
		}
	}
	for _, p := range noPrimes() {
		for _, row := range []int{2, 4, 16, 64, 289, mostCorner} {
			for _, place := range []int{0, 1, 2, row / 2, row - 1, row} {
				check(row, place, 1, p)
				check(row, place, 2, p)
			}
		}
	}
}
