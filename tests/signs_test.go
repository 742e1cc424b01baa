package tests

import (
	"iter"
	"math"
	"slices"
	"strings"
	"testing"

	"loop.example/carrytriangles/impl"
)

// margin is how many numbers stand ahead of and behind a row that is given out of greater memory.
const margin = impl.MaxSide + 2

// knownSide is a row with what stands under it, how many ones its triangle has, its last cell and its other side, written out.
type knownSide struct {
	row, under string
	ones, last int
	turned     string
}

// knownSides returns rows of 1, 2, 3, 4 and MaxSide cells, such of noughts and of ones among them.
func knownSides() []knownSide {
	return []knownSide{
		{"0", "", 0, 0, "0"}, {"1", "", 1, 1, "1"},
		{"00", "0", 0, 0, "00"}, {"01", "1", 2, 1, "11"}, {"10", "1", 2, 1, "01"}, {"11", "0", 2, 0, "10"},
		{"000", "00", 0, 0, "000"}, {"001", "01", 3, 1, "111"}, {"010", "11", 3, 0, "010"}, {"011", "10", 4, 1, "101"},
		{"100", "10", 3, 1, "001"}, {"101", "11", 4, 0, "110"}, {"110", "01", 4, 1, "011"}, {"111", "00", 3, 0, "100"},
		{"1001", "101", 6, 0, "1110"}, {"1010", "111", 5, 0, "0100"}, {"0011", "010", 5, 0, "1010"}, {"1101", "011", 7, 1, "1101"},
		{"000000000000", "00000000000", 0, 0, "000000000000"}, {"111111111111", "00000000000", 12, 0, "100000000000"},
		{"100000000000", "10000000000", 12, 1, "000000000001"}, {"000000000001", "00000000001", 12, 1, "111111111111"},
		{"000001000000", "00001100000", 23, 0, "000000110000"}, {"010101010101", "11111111111", 17, 0, "110000000000"},
		{"101101101101", "11011011011", 52, 0, "110110110110"}, {"011011011011", "10110110110", 52, 1, "101101101101"},
		{"110100100011", "01110110010", 43, 1, "101011110111"}, {"001011101000", "01110011100", 41, 0, "000101100100"},
	}
}

// cellsOf returns the cells that a text has.
func cellsOf(text string) []int {
	var row []int
	for _, mark := range []byte(text) {
		row = append(row, int(mark-'0'))
	}
	return row
}

// sidesOf yields all rows of so many noughts and ones.
func sidesOf(cells int) iter.Seq[[]int] {
	return rowsWithin(cells, 1)
}

// rowsWithin yields all rows of so many numbers, each in 0..most.
func rowsWithin(count, most int) iter.Seq[[]int] {
	return func(yield func([]int) bool) {
		row := make([]int, count)
		for {
			if !yield(slices.Clone(row)) {
				return
			}
			place := 0
			for ; place < count && row[place] == most; place++ {
				row[place] = 0
			}
			if place == count {
				return
			}
			row[place]++
		}
	}
}

// everySide yields all rows of 1..MaxSide noughts and ones.
func everySide() iter.Seq[[]int] {
	return func(yield func([]int) bool) {
		for cells := range impl.MaxSide {
			for row := range sidesOf(cells + 1) {
				if !yield(row) {
					return
				}
			}
		}
	}
}

// plainSides returns rows of so many cells: noughts, ones, both in turn, and rows of one one.
// All others are such of one one, added.
func plainSides(cells int) [][]int {
	turns := make([]int, cells)
	for place := range turns {
		turns[place] = place % 2
	}
	rows := [][]int{make([]int, cells), slices.Repeat([]int{1}, cells), turns}
	for place := range cells {
		row := make([]int, cells)
		row[place] = 1
		rows = append(rows, row)
	}
	return rows
}

// otherSides returns rows that are no sides: without cells, too long ones, and such with one cell that may not be, at each place.
func otherSides() [][]int {
	rows := [][]int{nil, {}, make([]int, 0, impl.MaxSide)}
	for _, cells := range []int{impl.MaxSide + 1, impl.MaxSide + 2, 2 * impl.MaxSide, 31, 32, 33, 63, 64, 65, 1000} {
		rows = append(rows, make([]int, cells), slices.Repeat([]int{1}, cells), slices.Repeat([]int{1, 0}, cells)[:cells])
	}
	bad := []int{-1, 2, -2, 3, 4, 48, 49, 256, 257, 1 << 32, 1<<32 + 1, math.MinInt, math.MinInt + 1, math.MaxInt - 1, math.MaxInt}
	return slices.Concat(rows, rowsWithOneBad(impl.MaxSide+1, []int{0, 1}, bad))
}

// rowsWithOneBad returns rows of 1..most numbers that are all one good number but for a bad one, at each place.
func rowsWithOneBad(most int, good, bad []int) [][]int {
	var rows [][]int
	for count := 1; count <= most; count++ {
		for place := range count {
			for _, spoilt := range bad {
				for _, other := range good {
					row := slices.Repeat([]int{other}, count)
					row[place] = spoilt
					rows = append(rows, row)
				}
			}
		}
	}
	return rows
}

// cellBySums tells the cell so many rows under a row: the sum of the cells above it, each as often as the triangle of sums tells, divided by 2.
// It makes no row between, and does not use the program.
func cellBySums(row []int, down, place int) int {
	sum := 0
	for further := range down + 1 {
		sum += cellByFactors(down, further) * row[place+further]
	}
	return sum % 2
}

// rowsBySums returns the triangle of a row, each cell told alone.
func rowsBySums(row []int) [][]int {
	var rows [][]int
	for down := range row {
		var cells []int
		for place := range len(row) - down {
			cells = append(cells, cellBySums(row, down, place))
		}
		rows = append(rows, cells)
	}
	return rows
}

// together returns the sum of the numbers of all rows.
func together(rows [][]int) int {
	sum := 0
	for _, row := range rows {
		for _, n := range row {
			sum += n
		}
	}
	return sum
}

// turnedCells returns a row with 1 for each 0 and 0 for each 1.
func turnedCells(row []int) []int {
	turned := make([]int, len(row))
	for place, cell := range row {
		turned[place] = 1 - cell
	}
	return turned
}

// addedCells returns two rows added cell by cell, divided by 2.
func addedCells(x, y []int) []int {
	sums := make([]int, len(x))
	for place := range sums {
		sums[place] = (x[place] + y[place]) % 2
	}
	return sums
}

// fromEnd returns a row from its other end.
func fromEnd(row []int) []int {
	other := slices.Clone(row)
	slices.Reverse(other)
	return other
}

// alikeRows reports whether two triangles have the same rows.
func alikeRows(x, y [][]int) bool {
	return slices.EqualFunc(x, y, slices.Equal[[]int])
}

// copied returns rows in memory of their own, all of which is seen: what they have room for, too.
func copied(rows [][]int) [][]int {
	var copies [][]int
	for _, row := range rows {
		copies = append(copies, slices.Clone(row[:cap(row)]))
	}
	return copies
}

// spoil writes over all the memory of a row.
func spoil(row []int) {
	row = row[:cap(row)]
	for place := range row {
		row[place] = -7
	}
}

// inMemory returns memory in which a row stands, and the row there: it has room behind it, which no call may write into.
func inMemory(row []int) (memory []int, there []int) {
	other := slices.Repeat([]int{-3}, margin)
	memory = slices.Concat(other, row, other)
	return memory, memory[margin : margin+len(row)]
}

// checkNewRows holds that a call writes into none of the rows, and that the rows of its results share memory neither with an argument, nor with each other, nor with other results.
func checkNewRows(t *testing.T, name string, rows iter.Seq[[]int], call func([]int) [][]int) {
	t.Helper()
	for row := range rows {
		memory, there := inMemory(row)
		was := slices.Clone(memory)
		result := call(there)
		want := copied(result)
		for at := range want {
			spoilt := call(there)
			spoil(spoilt[at])
			for other := range spoilt {
				if other != at && !slices.Equal(spoilt[other][:cap(spoilt[other])], want[other]) {
					t.Fatalf("%s(%v): the rows %d and %d of a result share memory", name, row, at, other)
				}
			}
			spoilt[at] = nil
		}
		if !slices.Equal(memory, was) {
			t.Fatalf("%s(%v): the argument was written to, or shares memory with a result", name, row)
		}
		spoil(memory)
		if !alikeRows(copied(result), want) {
			t.Fatalf("%s(%v): two results share memory, or one with the argument", name, row)
		}
		if got := copied(call(slices.Clone(row))); !alikeRows(got, want) {
			t.Fatalf("%s(%v) = %v after results were written to, want %v", name, row, got, want)
		}
	}
}

// sidesAndOthers returns rows, be they sides or not.
func sidesAndOthers() [][]int {
	return slices.Concat(slices.Collect(everySide()), otherSides())
}

// checkLeavesRows holds that a call writes into none of the rows.
func checkLeavesRows(t *testing.T, name string, rows [][]int, call func([]int)) {
	t.Helper()
	for _, row := range rows {
		memory, there := inMemory(row)
		was := slices.Clone(memory)
		call(there)
		if !slices.Equal(memory, was) {
			t.Fatalf("%s(%v): the argument was written to", name, row)
		}
	}
}

// Promise 58: one cell is a side.

func TestMostCellsOfASide(t *testing.T) {
	if impl.MaxSide != 12 {
		t.Errorf("MaxSide = %d, want 12", impl.MaxSide)
	}
}

func TestSideOkOneCell(t *testing.T) {
	for _, row := range [][]int{{0}, {1}, make([]int, impl.MaxSide), slices.Repeat([]int{1}, impl.MaxSide)} {
		if !impl.SideOk(row) {
			t.Errorf("SideOk(%v) = false, want true", row)
		}
	}
}

func TestSideOkEverySide(t *testing.T) {
	for row := range everySide() {
		if !impl.SideOk(row) {
			t.Errorf("SideOk(%v) = false, want true", row)
		}
	}
}

func TestSideOkOthers(t *testing.T) {
	for _, row := range otherSides() {
		if impl.SideOk(row) {
			t.Errorf("SideOk(%v) = true, want false", row)
		}
	}
}

func TestSideOkLeavesItsArgument(t *testing.T) {
	checkLeavesRows(t, "SideOk", sidesAndOthers(), func(row []int) { impl.SideOk(row) })
}

// Promise 37: under sums stand sums.

func TestUnderOfKnown(t *testing.T) {
	for _, k := range knownSides() {
		if got := impl.UnderOf(cellsOf(k.row)); !slices.Equal(got, cellsOf(k.under)) {
			t.Errorf("UnderOf(%s) = %v, want %q", k.row, got, k.under)
		}
	}
}

func TestUnderOfTellsUnlikeCells(t *testing.T) {
	for row := range everySide() {
		got := impl.UnderOf(row)
		if len(got) != len(row)-1 {
			t.Fatalf("UnderOf(%v) = %v, want one cell fewer", row, got)
		}
		for place, cell := range got {
			if want := row[place] != row[place+1]; cell != 0 && cell != 1 || want != (cell == 1) {
				t.Errorf("UnderOf(%v) = %v, but the cells at %d are unlike: %v", row, got, place, want)
			}
		}
	}
}

func TestUnderOfTurnedCellsIsTheSame(t *testing.T) {
	for row := range everySide() {
		want := impl.UnderOf(row)
		if got := impl.UnderOf(turnedCells(row)); !slices.Equal(got, want) {
			t.Errorf("UnderOf(%v) = %v, but %v with each cell turned", row, want, got)
		}
	}
}

func TestUnderOfSumsIsSums(t *testing.T) {
	for cells := 1; cells <= impl.MaxSide; cells++ {
		others := plainSides(cells)
		if cells <= 6 {
			others = slices.Collect(sidesOf(cells))
		}
		for row := range sidesOf(cells) {
			for _, other := range others {
				got := impl.UnderOf(addedCells(row, other))
				if want := addedCells(impl.UnderOf(row), impl.UnderOf(other)); !slices.Equal(got, want) || len(got) != cells-1 {
					t.Errorf("UnderOf of %v and %v added is %v, want %v", row, other, got, want)
				}
			}
		}
	}
}

func TestUnderOfOthers(t *testing.T) {
	for _, row := range otherSides() {
		if got := impl.UnderOf(row); len(got) != 0 {
			t.Errorf("UnderOf(%v) = %v, want nothing", row, got)
		}
	}
}

func TestUnderOfIsNewMemory(t *testing.T) {
	checkNewRows(t, "UnderOf", everySide(), func(row []int) [][]int { return [][]int{impl.UnderOf(row)} })
	checkLeavesRows(t, "UnderOf", sidesAndOthers(), func(row []int) { impl.UnderOf(row) })
}

// Promise 38: triangles go down to one cell.

func TestRowsUnderKnown(t *testing.T) {
	known := []string{
		"0", "1", "00 0", "01 1", "10 1", "11 0", "000 00 0", "001 01 1", "010 11 0", "011 10 1", "100 10 1", "101 11 0", "110 01 1", "111 00 0",
		"1001 101 11 0", "1010 111 00 0", "0011 010 11 0", "1101 011 10 1", "10011 1010 111 00 0",
		"000000000000 00000000000 0000000000 000000000 00000000 0000000 000000 00000 0000 000 00 0",
		"111111111111 00000000000 0000000000 000000000 00000000 0000000 000000 00000 0000 000 00 0",
		"000000000001 00000000001 0000000001 000000001 00000001 0000001 000001 00001 0001 001 01 1",
		"100000000000 10000000000 1000000000 100000000 10000000 1000000 100000 10000 1000 100 10 1",
		"101101101101 11011011011 0110110110 101101101 11011011 0110110 101101 11011 0110 101 11 0",
	}
	for _, text := range known {
		var want [][]int
		for _, row := range strings.Fields(text) {
			want = append(want, cellsOf(row))
		}
		if got := impl.RowsUnder(want[0]); !alikeRows(got, want) {
			t.Errorf("RowsUnder(%v) = %v, want %v", want[0], got, want)
		}
	}
}

func TestRowsUnderGoesDownToOneCell(t *testing.T) {
	for row := range everySide() {
		rows := impl.RowsUnder(row)
		if len(rows) != len(row) || !slices.Equal(rows[0], row) {
			t.Fatalf("RowsUnder(%v) = %v, want %d rows from the row on", row, rows, len(row))
		}
		for down, cells := range rows {
			if len(cells) != len(row)-down {
				t.Fatalf("RowsUnder(%v) = %v, want %d cells in the row %d", row, rows, len(row)-down, down)
			}
			if down > 0 && !slices.Equal(cells, impl.UnderOf(rows[down-1])) {
				t.Errorf("RowsUnder(%v) = %v, but UnderOf the row %d is %v", row, rows, down-1, impl.UnderOf(rows[down-1]))
			}
		}
	}
}

func TestRowsUnderIsToldByTheTriangleOfSums(t *testing.T) {
	for row := range everySide() {
		got := impl.RowsUnder(row)
		if want := rowsBySums(row); !alikeRows(got, want) {
			t.Errorf("RowsUnder(%v) = %v, want %v", row, got, want)
		}
	}
}

func TestRowsUnderOthers(t *testing.T) {
	for _, row := range otherSides() {
		if got := impl.RowsUnder(row); len(got) != 0 {
			t.Errorf("RowsUnder(%v) = %v, want nothing", row, got)
		}
	}
}

func TestRowsUnderIsNewMemory(t *testing.T) {
	checkNewRows(t, "RowsUnder", everySide(), impl.RowsUnder)
	checkLeavesRows(t, "RowsUnder", sidesAndOthers(), func(row []int) { impl.RowsUnder(row) })
}

// Promise 39: each side has as many ones.

func TestOnesInKnown(t *testing.T) {
	for _, k := range knownSides() {
		if got := impl.OnesIn(cellsOf(k.row)); got != k.ones {
			t.Errorf("OnesIn(%s) = %d, want %d", k.row, got, k.ones)
		}
	}
}

func TestOnesInIsInTheTriangle(t *testing.T) {
	for row := range everySide() {
		got := impl.OnesIn(row)
		if want := together(rowsBySums(row)); got != want {
			t.Errorf("OnesIn(%v) = %d, want %d", row, got, want)
		}
		if want := together(impl.RowsUnder(row)); got != want {
			t.Errorf("OnesIn(%v) = %d, but the triangle has %d", row, got, want)
		}
	}
}

func TestOnesInIsTheSameFromEachSide(t *testing.T) {
	for row := range everySide() {
		want := impl.OnesIn(row)
		once := impl.TurnedOf(row)
		twice := impl.TurnedOf(once)
		for _, other := range [][]int{fromEnd(row), once, fromEnd(once), twice, fromEnd(twice)} {
			if got := impl.OnesIn(other); got != want {
				t.Errorf("OnesIn(%v) = %d, but %d of the side %v", row, want, got, other)
			}
		}
	}
}

func TestOnesInAreTwoOfThreeCellsAtMost(t *testing.T) {
	for cells := 1; cells <= impl.MaxSide; cells++ {
		all := cells * (cells + 1) / 2
		most := 0
		for row := range sidesOf(cells) {
			got := impl.OnesIn(row)
			if got < 0 || got > (2*all+2)/3 {
				t.Errorf("OnesIn(%v) = %d, of %d cells", row, got, all)
			}
			most = max(most, got)
		}
		if want := (2*all + 2) / 3; most != want {
			t.Errorf("OnesIn rows of %d cells is %d at most, want %d", cells, most, want)
		}
	}
}

func TestOnesInOthers(t *testing.T) {
	for _, row := range otherSides() {
		if got := impl.OnesIn(row); got != -1 {
			t.Errorf("OnesIn(%v) = %d, want -1", row, got)
		}
	}
}

func TestOnesInLeavesItsArgument(t *testing.T) {
	checkLeavesRows(t, "OnesIn", sidesAndOthers(), func(row []int) { impl.OnesIn(row) })
}

// Promise 40: the triangle of sums tells the last cell.

func TestLastOfKnown(t *testing.T) {
	for _, k := range knownSides() {
		if got := impl.LastOf(cellsOf(k.row)); got != k.last {
			t.Errorf("LastOf(%s) = %d, want %d", k.row, got, k.last)
		}
	}
}

func TestLastOfIsTheLastRow(t *testing.T) {
	for row := range everySide() {
		got := impl.LastOf(row)
		if rows := impl.RowsUnder(row); len(rows) == 0 || !slices.Equal(rows[len(rows)-1], []int{got}) {
			t.Errorf("LastOf(%v) = %d, which is not the last row of %v", row, got, rows)
		}
		if want := cellBySums(row, len(row)-1, 0); got != want {
			t.Errorf("LastOf(%v) = %d, want %d", row, got, want)
		}
	}
}

func TestLastOfIsToldByTheTriangleOfSums(t *testing.T) {
	for row := range everySide() {
		sum := 0
		for place, left := range impl.RowLeft(len(row)-1, 2) {
			sum += row[place] * left
		}
		if got := impl.LastOf(row); got != sum%2 {
			t.Errorf("LastOf(%v) = %d, want %d", row, got, sum%2)
		}
	}
}

func TestLastOfOthers(t *testing.T) {
	for _, row := range otherSides() {
		if got := impl.LastOf(row); got != -1 {
			t.Errorf("LastOf(%v) = %d, want -1", row, got)
		}
	}
}

func TestLastOfLeavesItsArgument(t *testing.T) {
	checkLeavesRows(t, "LastOf", sidesAndOthers(), func(row []int) { impl.LastOf(row) })
}

// Promise 41: turned three times it is as before.

func TestTurnedOfKnown(t *testing.T) {
	for _, k := range knownSides() {
		if got := impl.TurnedOf(cellsOf(k.row)); !slices.Equal(got, cellsOf(k.turned)) {
			t.Errorf("TurnedOf(%s) = %v, want %s", k.row, got, k.turned)
		}
	}
}

func TestTurnedOfHasTheLastCells(t *testing.T) {
	for row := range everySide() {
		got := impl.TurnedOf(row)
		var want []int
		for _, cells := range rowsBySums(row) {
			want = append(want, cells[len(cells)-1])
		}
		if !slices.Equal(got, want) {
			t.Errorf("TurnedOf(%v) = %v, want %v", row, got, want)
			continue
		}
		if got[0] != row[len(row)-1] || got[len(got)-1] != impl.LastOf(row) {
			t.Errorf("TurnedOf(%v) = %v, want it from the row's last cell to the last one of all", row, got)
		}
	}
}

func TestTurnedOfThreeTimesIsTheRow(t *testing.T) {
	for row := range everySide() {
		if got := impl.TurnedOf(impl.TurnedOf(impl.TurnedOf(row))); !slices.Equal(got, row) {
			t.Errorf("TurnedOf(%v), three times, is %v", row, got)
		}
	}
}

func TestTurnedOfHasTheSameTriangle(t *testing.T) {
	for row := range everySide() {
		turned := impl.TurnedOf(row)
		before, after := impl.RowsUnder(row), impl.RowsUnder(turned)
		if impl.OnesIn(turned) != impl.OnesIn(row) {
			t.Errorf("TurnedOf(%v) = %v has %d ones, want %d", row, turned, impl.OnesIn(turned), impl.OnesIn(row))
		}
		if len(after) != len(before) {
			t.Fatalf("TurnedOf(%v) = %v has %d rows, want %d", row, turned, len(after), len(before))
		}
		for down, cells := range after {
			for place, cell := range cells {
				// Each row of the turned triangle is a line of the one before, from the last cell of a row on.
				if want := before[place][len(row)-1-down-place]; cell != want {
					t.Errorf("TurnedOf(%v) = %v has %d in the row %d at %d, want %d", row, turned, cell, down, place, want)
				}
			}
		}
	}
}

func TestTurnedOfOthers(t *testing.T) {
	for _, row := range otherSides() {
		if got := impl.TurnedOf(row); len(got) != 0 {
			t.Errorf("TurnedOf(%v) = %v, want nothing", row, got)
		}
	}
}

func TestTurnedOfIsNewMemory(t *testing.T) {
	checkNewRows(t, "TurnedOf", everySide(), func(row []int) [][]int { return [][]int{impl.TurnedOf(row)} })
	checkLeavesRows(t, "TurnedOf", sidesAndOthers(), func(row []int) { impl.TurnedOf(row) })
}

// Promise 42: balanced triangles leave nothing or three by four.

func TestCountBalancedKnown(t *testing.T) {
	for at, want := range []int{0, 0, 4, 6, 0, 0, 12, 40, 0, 0, 171, 410} {
		if got := impl.CountBalanced(at + 1); got != want {
			t.Errorf("CountBalanced(%d) = %d, want %d", at+1, got, want)
		}
	}
}

func TestCountBalancedIsSomeByFour(t *testing.T) {
	for cells := 1; cells <= impl.MaxSide; cells++ {
		got := impl.CountBalanced(cells)
		if want := cells%4 == 0 || cells%4 == 3; got < 0 || want != (got > 0) {
			t.Errorf("CountBalanced(%d) = %d, want some: %v", cells, got, want)
		}
	}
}

func TestCountBalancedCountsTriangles(t *testing.T) {
	for cells := 1; cells <= impl.MaxSide; cells++ {
		want, told := 0, 0
		for row := range sidesOf(cells) {
			all := cells * (cells + 1) / 2
			if 2*together(rowsBySums(row)) == all {
				want++
			}
			if 2*impl.OnesIn(row) == all {
				told++
			}
		}
		if got := impl.CountBalanced(cells); got != want || got != told {
			t.Errorf("CountBalanced(%d) = %d, want %d, and as many as OnesIn tells, %d", cells, got, want, told)
		}
	}
}

func TestCountBalancedOthers(t *testing.T) {
	for _, cells := range append(outside(impl.MaxSide), 0, -3, -4, -12, 15, 16, 19, 20, 31, 32, 60, 63, 64, 300, math.MinInt+1, math.MaxInt-1) {
		if got := impl.CountBalanced(cells); got != -1 {
			t.Errorf("CountBalanced(%d) = %d, want -1", cells, got)
		}
	}
}
