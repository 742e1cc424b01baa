package impl

import (
	"iter"
	"slices"
)

// MaxRow is the greatest row.
const MaxRow = 60

// maxHeap is the greatest number of things of a heap: two of them are together the greatest row.
const maxHeap = MaxRow / 2

// RowOf returns the row of the triangle with a number, in 0..MaxRow: the row 0 is 1 alone; each further one begins and ends with 1, and has between them the sums of each two cells beside each other of the row before; nil for others.
func RowOf(row int) []int {
	if !within(row, MaxRow) {
		return nil
	}
	var last []int
	for cells := range rowsTo(row) {
		last = cells
	}
	return slices.Clone(last)
}

// CellOf returns the cell of a row (RowOf), in 0..MaxRow, at a place, from 0 on, 0 at greater places than the row's number; -1 for others.
func CellOf(row int, place int) int {
	if !within(row, MaxRow) || place < 0 {
		return -1
	}
	return cellAt(RowOf(row), place)
}

// SlopeOf returns the sum of all cells at a place, in 0..MaxRow, of the rows from 0 up to a row, in 0..MaxRow less 1 (CellOf); -1 for others.
func SlopeOf(row int, place int) int {
	if !within(row, MaxRow-1) || !within(place, MaxRow) {
		return -1
	}
	sum := 0
	for cells := range rowsTo(row) {
		sum += cellAt(cells, place)
	}
	return sum
}

// HeapsOf returns, for two heaps of so many things, each in 0..30, in how many ways so many things, in 0..60, are chosen of both: the sum, over all numbers of things of the first heap, of its cell times that of the second one for the rest (CellOf); -1 for others.
func HeapsOf(a int, b int, chosen int) int {
	if !within(a, maxHeap) || !within(b, maxHeap) || !within(chosen, 2*maxHeap) {
		return -1
	}
	second := RowOf(b)
	sum := 0
	for place, cell := range RowOf(a) {
		sum += cell * cellAt(second, chosen-place)
	}
	return sum
}

// TurnsOf returns the sum of all cells of a row (RowOf), in 0..MaxRow, up to a place, in 0..MaxRow, with signs that take turns, from plus for the place 0 on, and true; 0 and false for others.
func TurnsOf(row int, place int) (int, bool) {
	if !within(row, MaxRow) || !within(place, MaxRow) {
		return 0, false
	}
	sum, sign := 0, 1
	for _, cell := range RowOf(row)[:min(row, place)+1] {
		sum += sign * cell
		sign = -sign
	}
	return sum, true
}

// rowsTo yields the rows of the triangle, one under the other, from the row 0 up to a last one.
// All of them lie in the same memory: each is gone when the next one is made.
func rowsTo(last int) iter.Seq[[]int] {
	return func(yield func([]int) bool) {
		cells := make([]int, last+1)
		cells[0] = 1
		for row := range last + 1 {
			addBefore(cells[:row+1])
			if !yield(cells[:row+1]) {
				return
			}
		}
	}
}

// addBefore adds to each cell the one before it.
// It goes from the end on, so that what it adds is still of the row before.
func addBefore(cells []int) {
	for place := len(cells) - 1; place > 0; place-- {
		cells[place] += cells[place-1]
	}
}

// cellAt returns the cell at a place, and 0 where the row has none: a sum may reach over both ends.
func cellAt(cells []int, place int) int {
	if place < 0 || place >= len(cells) {
		return 0
	}
	return cells[place]
}

// within reports whether a number is in 0..most.
func within(n int, most int) bool {
	return 0 <= n && n <= most
}

// allWithin reports whether there are 1..count numbers, each in 0..most.
func allWithin(numbers []int, count int, most int) bool {
	if len(numbers) < 1 || len(numbers) > count {
		return false
	}
	for _, n := range numbers {
		if !within(n, most) {
			return false
		}
	}
	return true
}
