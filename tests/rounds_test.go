package tests

import (
	"iter"
	"math"
	"slices"
	"strconv"
	"strings"
	"testing"

	"loop.example/carrytriangles/impl"
)

// mostRounds is the most rounds of RoundsOf, EndOf and ComesAgain, and mostBitRounds the most ones of BitsAfter.
const (
	mostRounds    = 2000
	mostBitRounds = 300
)

// knownRing is a ring with what it is after a round, after how many rounds it ends, or -1, after how many it comes again, and how many rounds earlier it was that, written out.
type knownRing struct {
	ring, after     string
	end, again, ago int
}

// knownRings returns rings of 1..MaxRing numbers, such of 0, of MaxHigh and of numbers that are all alike among them, and the slowest ones that are known.
func knownRings() []knownRing {
	return []knownRing{
		{"0", "0", 0, 1, 1}, {"1", "0", 1, 2, 1}, {"73", "0", 1, 2, 1}, {"100", "0", 1, 2, 1},
		{"0 0", "0 0", 0, 1, 1}, {"7 7", "0 0", 1, 2, 1}, {"100 0", "100 100", 2, 3, 1}, {"3 10", "7 7", 2, 3, 1}, {"10 3", "7 7", 2, 3, 1},
		{"0 0 0", "0 0 0", 0, 1, 1}, {"5 5 5", "0 0 0", 1, 2, 1}, {"0 0 1", "0 1 1", -1, 4, 3}, {"1 1 0", "0 1 1", -1, 3, 3}, {"0 0 100", "0 100 100", -1, 4, 3},
		{"1 2 4", "1 2 3", -1, 6, 3}, {"9 40 100", "31 60 91", -1, 22, 3}, {"0 99 100", "99 1 100", -1, 103, 3},
		{"0 0 0 0", "0 0 0 0", 0, 1, 1}, {"2 2 2 2", "0 0 0 0", 1, 2, 1}, {"100 0 100 0", "100 100 100 100", 2, 3, 1}, {"1 5 2 9", "4 3 7 8", 4, 5, 1},
		{"0 1 4 9", "1 3 5 9", 8, 9, 1}, {"0 0 0 1", "0 0 1 1", 4, 5, 1}, {"44 81 13 24", "37 68 11 20", 12, 13, 1}, {"46 90 83 70", "44 7 13 24", 13, 14, 1},
		{"0 0 0 0 0", "0 0 0 0 0", 0, 1, 1}, {"6 6 6 6 6", "0 0 0 0 0", 1, 2, 1}, {"0 0 0 0 1", "0 0 0 1 1", -1, 16, 15}, {"1 1 0 0 0", "0 1 0 0 1", -1, 15, 15},
		{"1 1 1 1 0", "0 0 0 1 1", -1, 15, 15}, {"1 2 3 4 5", "1 1 1 1 4", -1, 17, 15}, {"100 0 100 0 50", "100 100 100 50 50", -1, 17, 15}, {"0 0 0 99 100", "0 0 99 1 100", -1, 313, 15},
		{"0 0 0 0 0 0", "0 0 0 0 0 0", 0, 1, 1}, {"3 3 3 3 3 3", "0 0 0 0 0 0", 1, 2, 1}, {"0 1 0 1 0 1", "1 1 1 1 1 1", 2, 3, 1}, {"5 1 5 1 5 1", "4 4 4 4 4 4", 2, 3, 1},
		{"0 1 2 3 2 1", "1 1 1 1 1 1", 2, 3, 1}, {"1 0 1 1 0 1", "1 1 0 1 1 0", -1, 3, 3}, {"1 0 0 1 0 0", "1 0 1 1 0 1", -1, 4, 3}, {"0 2 5 7 5 2", "2 3 2 2 3 2", -1, 5, 3},
		{"0 0 0 0 0 1", "0 0 0 0 1 1", -1, 8, 6}, {"10 20 35 20 10 0", "10 15 15 10 10 10", -1, 8, 6}, {"0 0 0 0 100 99", "0 0 0 100 1 99", -1, 207, 6},
		{"0 0 0 0 0 0 0", "0 0 0 0 0 0 0", 0, 1, 1}, {"4 4 4 4 4 4 4", "0 0 0 0 0 0 0", 1, 2, 1}, {"0 0 0 0 0 0 1", "0 0 0 0 0 1 1", -1, 8, 7}, {"1 1 0 0 0 1 1", "0 1 0 0 1 0 0", -1, 7, 7},
		{"1 2 3 4 5 6 7", "1 1 1 1 1 1 6", -1, 9, 7}, {"13 100 0 7 64 31 99", "87 100 7 57 33 68 86", -1, 37, 7}, {"0 1 0 100 100 99 100", "1 1 100 0 1 1 100", -1, 353, 7},
		{"0 0 0 0 0 0 0 0", "0 0 0 0 0 0 0 0", 0, 1, 1}, {"100 100 100 100 100 100 100 100", "0 0 0 0 0 0 0 0", 1, 2, 1}, {"0 100 0 100 0 100 0 100", "100 100 100 100 100 100 100 100", 2, 3, 1},
		{"0 0 0 0 0 0 0 1", "0 0 0 0 0 0 1 1", 8, 9, 1}, {"1 2 4 8 16 32 64 100", "1 2 4 8 16 32 36 99", 19, 20, 1}, {"17 3 99 40 0 100 58 1", "14 96 59 40 100 42 57 16", 15, 16, 1},
		{"0 39 21 2 0 0 98 43", "39 18 19 2 0 98 55 43", 36, 37, 1},
	}
}

// ringOf returns the ring that a text tells, its numbers with spaces between.
func ringOf(text string) []int {
	var ring []int
	for _, word := range strings.Fields(text) {
		n, err := strconv.Atoi(word)
		if err != nil {
			panic(err)
		}
		ring = append(ring, n)
	}
	return ring
}

// bitRings yields all rings of noughts and ones.
func bitRings() iter.Seq[[]int] {
	return func(yield func([]int) bool) {
		for count := range impl.MaxRing {
			for ring := range sidesOf(count + 1) {
				if !yield(ring) {
					return
				}
			}
		}
	}
}

// plainRings returns rings of each count: those of known ones, such of numbers that are all alike, such with one other number, at each place, and uneven ones.
func plainRings() [][]int {
	var rings [][]int
	for _, k := range knownRings() {
		rings = append(rings, ringOf(k.ring))
	}
	for count := 1; count <= impl.MaxRing; count++ {
		for _, all := range []int{0, 1, 2, 50, impl.MaxHigh - 1, impl.MaxHigh} {
			rings = append(rings, slices.Repeat([]int{all}, count))
		}
		for place := range count {
			for _, pair := range [][2]int{{0, 1}, {1, 0}, {0, impl.MaxHigh}, {impl.MaxHigh, 0}, {impl.MaxHigh, impl.MaxHigh - 1}, {3, 10}} {
				ring := slices.Repeat([]int{pair[0]}, count)
				ring[place] = pair[1]
				rings = append(rings, ring)
			}
		}
		for start := range 60 {
			rings = append(rings, unevenRow(count, impl.MaxHigh+1, start), unevenRow(count, 4, start))
		}
	}
	return rings
}

// everyRing yields all rings of one or two numbers, all of 3..MaxRing numbers in 0..2, and the plain ones.
func everyRing() iter.Seq[[]int] {
	return func(yield func([]int) bool) {
		for count := 1; count <= impl.MaxRing; count++ {
			most := 2
			if count <= 2 {
				most = impl.MaxHigh
			}
			for ring := range rowsWithin(count, most) {
				if !yield(ring) {
					return
				}
			}
		}
		for _, ring := range plainRings() {
			if !yield(ring) {
				return
			}
		}
	}
}

// tooManyOrNone returns rings without numbers, and such with more than there may be.
func tooManyOrNone() [][]int {
	rings := [][]int{nil, {}, make([]int, 0, impl.MaxRing)}
	for _, count := range []int{impl.MaxRing + 1, impl.MaxRing + 2, 12, 16, 32, 64, 100, 1000} {
		rings = append(rings, make([]int, count), slices.Repeat([]int{1}, count), slices.Repeat([]int{impl.MaxHigh}, count), unevenRow(count, impl.MaxHigh+1, count), unevenRow(count, 2, count))
	}
	return rings
}

// otherRings returns rings that are none: without numbers, too long ones, and such with one number that may not be, at each place.
func otherRings() [][]int {
	bad := append(outside(impl.MaxHigh), 127, 128, 200, 255, 256, 1000, 1<<32, 1<<32+1, math.MinInt+1, math.MaxInt-1)
	return slices.Concat(tooManyOrNone(), rowsWithOneBad(impl.MaxRing+1, []int{0, 1, impl.MaxHigh}, bad))
}

// otherBitRings returns rings that are none of noughts and ones, rings of greater numbers among them.
func otherBitRings() [][]int {
	bad := []int{2, 3, 4, 48, 49, impl.MaxHigh - 1, impl.MaxHigh}
	return slices.Concat(otherRings(), rowsWithOneBad(impl.MaxRing+1, []int{0, 1}, bad))
}

// ringsAndOthers returns rings, be they such that may be or not.
func ringsAndOthers() [][]int {
	return slices.Concat(plainRings(), slices.Collect(bitRings()), otherBitRings())
}

// otherRounds returns numbers of rounds that are not in 0..most.
func otherRounds(most int) []int {
	return append(outside(most), -300, -2000, most+3, 2*most, 1<<32, math.MinInt+1, math.MaxInt-1)
}

// movedOn returns a ring from the number at a place on, round to the one before it; none of one without numbers, as a wrong result may be.
func movedOn(ring []int, place int) []int {
	if len(ring) == 0 {
		return nil
	}
	place %= len(ring)
	return slices.Concat(ring[place:], ring[:place])
}

// differences tells a ring after a round.
func differences(ring []int) []int {
	further := make([]int, len(ring))
	for place, next := range movedOn(ring, 1) {
		further[place] = max(ring[place]-next, next-ring[place])
	}
	return further
}

// untilAgain returns the rings that a ring is, round by round, up to the first one that was there before, and that one's place.
// A ring that is there again goes on as it did: so they tell all rounds.
func untilAgain(ring []int) (rings [][]int, before int) {
	for {
		alike := func(other []int) bool { return slices.Equal(other, ring) }
		if before = slices.IndexFunc(rings, alike); before >= 0 {
			return append(rings, ring), before
		}
		rings = append(rings, ring)
		ring = differences(ring)
	}
}

// allNoughts reports whether all numbers are 0.
func allNoughts(ring []int) bool {
	return !slices.ContainsFunc(ring, func(n int) bool { return n != 0 })
}

// total returns the sum of all numbers.
func total(ring []int) int {
	return together([][]int{ring})
}

// timesAll returns a ring with each number times another one.
func timesAll(ring []int, times int) []int {
	product := make([]int, len(ring))
	for place, n := range ring {
		product[place] = n * times
	}
	return product
}

// someRounds returns numbers of rounds: small ones, powers of 2 and those beside them, and the greatest ones.
func someRounds(most int) []int {
	rounds := []int{0, 1, 2, 3, 4, 5, 6, 7}
	for power := 8; power <= most; power *= 2 {
		rounds = append(rounds, power-1, power, power+1)
	}
	return append(rounds, most-1, most)
}

// Promise 59: one number is a ring.

func TestGreatestRing(t *testing.T) {
	if impl.MaxRing != 8 || impl.MaxHigh != 100 {
		t.Errorf("MaxRing = %d and MaxHigh = %d, want 8 and 100", impl.MaxRing, impl.MaxHigh)
	}
}

func TestRingOkOneNumber(t *testing.T) {
	for n := range impl.MaxHigh + 1 {
		if !impl.RingOk([]int{n}) {
			t.Errorf("RingOk([%d]) = false, want true", n)
		}
	}
}

func TestRingOkEveryRing(t *testing.T) {
	for ring := range everyRing() {
		if !impl.RingOk(ring) {
			t.Errorf("RingOk(%v) = false, want true", ring)
		}
	}
}

func TestRingOkOthers(t *testing.T) {
	for _, ring := range otherRings() {
		if impl.RingOk(ring) {
			t.Errorf("RingOk(%v) = true, want false", ring)
		}
	}
}

func TestRingOkLeavesItsArgument(t *testing.T) {
	checkLeavesRows(t, "RingOk", ringsAndOthers(), func(ring []int) { impl.RingOk(ring) })
}

// Promise 43: the greatest number does not grow.

func TestRoundOfKnown(t *testing.T) {
	for _, k := range knownRings() {
		if got := impl.RoundOf(ringOf(k.ring)); !slices.Equal(got, ringOf(k.after)) {
			t.Errorf("RoundOf(%s) = %v, want %s", k.ring, got, k.after)
		}
	}
}

func TestRoundOfTellsDifferences(t *testing.T) {
	for ring := range everyRing() {
		if got, want := impl.RoundOf(ring), differences(ring); !slices.Equal(got, want) {
			t.Errorf("RoundOf(%v) = %v, want %v", ring, got, want)
		}
	}
}

func TestRoundOfDoesNotGrow(t *testing.T) {
	for ring := range everyRing() {
		got := impl.RoundOf(ring)
		if len(got) != len(ring) {
			t.Fatalf("RoundOf(%v) = %v, want as many numbers", ring, got)
		}
		if slices.Min(got) < 0 || slices.Max(got) > slices.Max(ring) {
			t.Errorf("RoundOf(%v) = %v, want no number greater than %d", ring, got, slices.Max(ring))
		}
		if total(got)%2 != 0 {
			t.Errorf("RoundOf(%v) = %v, together %d, want them even", ring, got, total(got))
		}
	}
}

func TestRoundOfMovedOnIsMovedOn(t *testing.T) {
	for ring := range everyRing() {
		want := movedOn(impl.RoundOf(ring), 1)
		if got := impl.RoundOf(movedOn(ring, 1)); !slices.Equal(got, want) {
			t.Errorf("RoundOf(%v), moved on by one place, is %v, want %v", ring, got, want)
		}
	}
}

func TestRoundOfOthers(t *testing.T) {
	for _, ring := range otherRings() {
		if got := impl.RoundOf(ring); len(got) != 0 {
			t.Errorf("RoundOf(%v) = %v, want nothing", ring, got)
		}
	}
}

func TestRoundOfIsNewMemory(t *testing.T) {
	checkNewRows(t, "RoundOf", everyRing(), func(ring []int) [][]int { return [][]int{impl.RoundOf(ring)} })
	checkLeavesRows(t, "RoundOf", ringsAndOthers(), func(ring []int) { impl.RoundOf(ring) })
}

// Promise 44: rounds go on.

func TestRoundsOfKnown(t *testing.T) {
	known := []struct {
		ring   string
		rounds int
		want   string
	}{
		{"73", 0, "73"}, {"73", 1, "0"}, {"73", 2000, "0"}, {"0", 2000, "0"}, {"30 100", 1, "70 70"}, {"30 100", 2, "0 0"}, {"30 100", 3, "0 0"},
		{"0 0 1", 1, "0 1 1"}, {"0 0 1", 2, "1 0 1"}, {"0 0 1", 3, "1 1 0"}, {"0 0 1", 4, "0 1 1"}, {"0 0 1", 1999, "0 1 1"}, {"0 0 1", 2000, "1 0 1"},
		{"0 99 100", 50, "50 51 1"}, {"0 99 100", 99, "1 2 1"}, {"0 99 100", 100, "1 1 0"}, {"0 99 100", 2000, "0 1 1"},
		{"1 5 2 9", 0, "1 5 2 9"}, {"1 5 2 9", 1, "4 3 7 8"}, {"1 5 2 9", 2, "1 4 1 4"}, {"1 5 2 9", 3, "3 3 3 3"}, {"1 5 2 9", 4, "0 0 0 0"}, {"1 5 2 9", 5, "0 0 0 0"},
		{"46 90 83 70", 1, "44 7 13 24"}, {"46 90 83 70", 5, "22 4 6 12"}, {"46 90 83 70", 12, "8 8 8 8"}, {"46 90 83 70", 13, "0 0 0 0"},
		{"0 0 0 99 100", 1, "0 0 99 1 100"}, {"0 0 0 99 100", 100, "67 1 66 0 0"}, {"0 0 0 99 100", 297, "1 1 2 1 1"}, {"0 0 0 99 100", 2000, "0 0 1 0 1"},
		{"0 0 0 0 100 99", 150, "26 27 26 25 0 0"}, {"0 0 0 0 100 99", 201, "0 0 1 1 1 1"}, {"0 0 0 0 100 99", 2000, "0 0 0 1 0 1"},
		{"0 1 0 100 100 99 100", 200, "42 42 42 42 43 43 0"}, {"0 1 0 100 100 99 100", 345, "0 1 2 1 0 1 1"}, {"0 1 0 100 100 99 100", 2000, "0 0 0 1 0 1 0"},
		{"0 39 21 2 0 0 98 43", 20, "0 4 48 20 8 4 0 12"}, {"0 39 21 2 0 0 98 43", 35, "16 16 16 16 16 16 16 16"}, {"0 39 21 2 0 0 98 43", 36, "0 0 0 0 0 0 0 0"},
	}
	for _, k := range known {
		if got := impl.RoundsOf(ringOf(k.ring), k.rounds); !slices.Equal(got, ringOf(k.want)) {
			t.Errorf("RoundsOf(%s, %d) = %v, want %s", k.ring, k.rounds, got, k.want)
		}
	}
}

func TestRoundsOfNoneIsTheRing(t *testing.T) {
	for ring := range everyRing() {
		if got := impl.RoundsOf(ring, 0); !slices.Equal(got, ring) {
			t.Errorf("RoundsOf(%v, 0) = %v, want the ring", ring, got)
		}
	}
}

func TestRoundsOfGoesOn(t *testing.T) {
	check := func(ring []int, rounds int) {
		t.Helper()
		want := impl.RoundOf(impl.RoundsOf(ring, rounds))
		if got := impl.RoundsOf(ring, rounds+1); !slices.Equal(got, want) || len(got) != len(ring) {
			t.Errorf("RoundsOf(%v, %d) = %v, want %v", ring, rounds+1, got, want)
		}
	}
	for ring := range everyRing() {
		for _, rounds := range []int{0, 1, 2, 3, 9} {
			check(ring, rounds)
		}
	}
	for _, ring := range plainRings() {
		for _, rounds := range []int{5, 31, 99, 100, 255, 999, mostRounds - 2, mostRounds - 1} {
			check(ring, rounds)
		}
	}
}

func TestRoundsOfGoesRoundByRound(t *testing.T) {
	for _, k := range knownRings() {
		ring := ringOf(k.ring)
		want := ring
		for rounds := range mostRounds + 1 {
			if got := impl.RoundsOf(ring, rounds); !slices.Equal(got, want) {
				t.Fatalf("RoundsOf(%v, %d) = %v, want %v", ring, rounds, got, want)
			}
			want = differences(want)
		}
	}
}

func TestRoundsOfTwiceIsTwiceAsGreat(t *testing.T) {
	for ring := range everyRing() {
		if 2*slices.Max(ring) > impl.MaxHigh {
			continue
		}
		for _, rounds := range []int{0, 1, 2, 3, 8, 50} {
			want := timesAll(impl.RoundsOf(ring, rounds), 2)
			if got := impl.RoundsOf(timesAll(ring, 2), rounds); !slices.Equal(got, want) || len(got) != len(ring) {
				t.Errorf("RoundsOf(%v, %d), times 2, is %v, want %v", ring, rounds, got, want)
			}
		}
	}
}

func TestRoundsOfOthers(t *testing.T) {
	check := func(ring []int, rounds int) {
		t.Helper()
		if got := impl.RoundsOf(ring, rounds); len(got) != 0 {
			t.Errorf("RoundsOf(%v, %d) = %v, want nothing", ring, rounds, got)
		}
	}
	for _, ring := range otherRings() {
		for _, rounds := range append(otherRounds(mostRounds), 0, 1, 2, 17, mostRounds) {
			check(ring, rounds)
		}
	}
	for _, ring := range plainRings() {
		for _, rounds := range otherRounds(mostRounds) {
			check(ring, rounds)
		}
	}
}

func TestRoundsOfIsNewMemory(t *testing.T) {
	for _, rounds := range []int{0, 1, 2, mostRounds} {
		call := func(ring []int) [][]int { return [][]int{impl.RoundsOf(ring, rounds)} }
		checkNewRows(t, "RoundsOf", slices.Values(plainRings()), call)
	}
	for _, rounds := range []int{-1, 0, 1, 2, mostRounds, mostRounds + 1} {
		checkLeavesRows(t, "RoundsOf", ringsAndOthers(), func(ring []int) { impl.RoundsOf(ring, rounds) })
	}
}

// Promise 45: powers of two end.

// checkEnd holds that a ring ends after so many rounds, or that it does not, for -1.
func checkEnd(t *testing.T, ring []int, want int) {
	t.Helper()
	if got, ok := impl.EndOf(ring); got != want || ok != (want >= 0) {
		t.Errorf("EndOf(%v) = %d, %v, want %d, %v", ring, got, ok, want, want >= 0)
	}
}

func TestEndOfKnown(t *testing.T) {
	for _, k := range knownRings() {
		checkEnd(t, ringOf(k.ring), k.end)
	}
}

func TestEndOfIsTheFirstOfNoughts(t *testing.T) {
	for ring := range everyRing() {
		rings, _ := untilAgain(ring)
		checkEnd(t, ring, slices.IndexFunc(rings, allNoughts))
	}
}

func TestEndOfPowersOfTwo(t *testing.T) {
	for ring := range everyRing() {
		if count := len(ring); count&(count-1) != 0 {
			continue
		}
		rounds, ok := impl.EndOf(ring)
		if !ok || rounds < 0 {
			t.Errorf("EndOf(%v) = %d, %v, want that it ends", ring, rounds, ok)
			continue
		}
		if last := impl.RoundsOf(ring, rounds); !allNoughts(last) || len(last) != len(ring) {
			t.Errorf("EndOf(%v) = %d, but then it is %v", ring, rounds, last)
		}
		if rounds > 0 && allNoughts(impl.RoundsOf(ring, rounds-1)) {
			t.Errorf("EndOf(%v) = %d, but one round before all numbers are 0, too", ring, rounds)
		}
	}
}

func TestEndOfNumbersAllAlike(t *testing.T) {
	for count := 1; count <= impl.MaxRing; count++ {
		for n := range impl.MaxHigh + 1 {
			checkEnd(t, slices.Repeat([]int{n}, count), min(n, 1))
		}
	}
}

// Round a ring of an odd number of numbers differences that are all alike, and not 0, do not add up to none: so only rings of numbers that are all alike end.
func TestEndOfOddRings(t *testing.T) {
	for ring := range everyRing() {
		if len(ring)%2 == 0 {
			continue
		}
		want := -1
		if slices.Min(ring) == slices.Max(ring) {
			want = min(ring[0], 1)
		}
		checkEnd(t, ring, want)
	}
}

func TestEndOfSixBits(t *testing.T) {
	for ring := range sidesOf(6) {
		_, got := impl.EndOf(ring)
		if want := slices.Equal(ring, movedOn(ring, 2)); got != want {
			t.Errorf("EndOf(%v) ends: %v, want %v", ring, got, want)
		}
	}
}

func TestEndOfOthers(t *testing.T) {
	for _, ring := range otherRings() {
		checkEnd(t, ring, -1)
	}
}

func TestEndOfLeavesItsArgument(t *testing.T) {
	checkLeavesRows(t, "EndOf", ringsAndOthers(), func(ring []int) { impl.EndOf(ring) })
}

// Promise 46: the triangle tells many rounds at once.

// bitsByFactors tells a ring of noughts and ones after so many rounds by whole cells of the triangle, without any rounds.
func bitsByFactors(ring []int, rounds int) []int {
	after := make([]int, len(ring))
	for further := range rounds + 1 {
		odd := int(bigCell(rounds, further).Bit(0))
		for place, n := range movedOn(ring, further) {
			after[place] ^= odd & n
		}
	}
	return after
}

func TestBitsAfterKnown(t *testing.T) {
	known := []struct {
		ring   string
		rounds int
		want   string
	}{
		{"0", 0, "0"}, {"0", 1, "0"}, {"1", 0, "1"}, {"1", 1, "0"}, {"1", 256, "0"}, {"1", 300, "0"}, {"10", 0, "10"}, {"10", 1, "11"}, {"10", 2, "00"}, {"10", 256, "00"},
		{"100", 0, "100"}, {"100", 1, "101"}, {"100", 2, "110"}, {"100", 3, "011"}, {"100", 256, "101"}, {"100", 300, "011"},
		{"1101", 1, "0110"}, {"1101", 2, "1010"}, {"1101", 3, "1111"}, {"1101", 4, "0000"}, {"1101", 300, "0000"},
		{"10000", 1, "10001"}, {"10000", 2, "10010"}, {"10000", 3, "10111"}, {"10000", 255, "01111"}, {"10000", 256, "10001"}, {"10000", 299, "00101"}, {"10000", 300, "01111"},
		{"000001", 1, "000011"}, {"000001", 2, "000101"}, {"000001", 5, "110011"}, {"000001", 256, "010001"}, {"000001", 300, "010100"},
		{"1100101", 1, "0101110"}, {"1100101", 2, "1110010"}, {"1100101", 127, "0101110"}, {"1100101", 128, "1110010"}, {"1100101", 256, "0111001"}, {"1100101", 300, "1011100"},
		{"10110001", 1, "11010010"}, {"10110001", 2, "01110111"}, {"10110001", 4, "10101010"}, {"10110001", 7, "00000000"}, {"10110001", 8, "00000000"},
	}
	for _, k := range known {
		if got := impl.BitsAfter(cellsOf(k.ring), k.rounds); !slices.Equal(got, cellsOf(k.want)) {
			t.Errorf("BitsAfter(%s, %d) = %v, want %s", k.ring, k.rounds, got, k.want)
		}
	}
}

func TestBitsAfterIsRounds(t *testing.T) {
	check := func(ring []int, rounds int) {
		t.Helper()
		got := impl.BitsAfter(ring, rounds)
		if want := impl.RoundsOf(ring, rounds); !slices.Equal(got, want) || len(got) != len(ring) {
			t.Errorf("BitsAfter(%v, %d) = %v, want %v", ring, rounds, got, want)
		}
	}
	for ring := range bitRings() {
		for _, rounds := range someRounds(mostBitRounds) {
			check(ring, rounds)
		}
	}
	for count := 1; count <= impl.MaxRing; count++ {
		for _, ring := range plainSides(count) {
			for rounds := range mostBitRounds + 1 {
				check(ring, rounds)
			}
		}
	}
}

func TestBitsAfterIsToldByTheTriangle(t *testing.T) {
	for count := 1; count <= impl.MaxRing; count++ {
		for _, ring := range plainSides(count) {
			for _, rounds := range someRounds(mostBitRounds) {
				got := impl.BitsAfter(ring, rounds)
				if want := bitsByFactors(ring, rounds); !slices.Equal(got, want) {
					t.Errorf("BitsAfter(%v, %d) = %v, want %v", ring, rounds, got, want)
				}
			}
		}
	}
}

func TestBitsAfterPowersOfTwo(t *testing.T) {
	for ring := range bitRings() {
		for rounds := 1; rounds <= mostBitRounds; rounds *= 2 {
			got := impl.BitsAfter(ring, rounds)
			if want := addedCells(ring, movedOn(ring, rounds)); !slices.Equal(got, want) {
				t.Errorf("BitsAfter(%v, %d) = %v, want %v", ring, rounds, got, want)
			}
		}
	}
}

func TestBitsAfterOthers(t *testing.T) {
	check := func(ring []int, rounds int) {
		t.Helper()
		if got := impl.BitsAfter(ring, rounds); len(got) != 0 {
			t.Errorf("BitsAfter(%v, %d) = %v, want nothing", ring, rounds, got)
		}
	}
	for _, ring := range otherBitRings() {
		for _, rounds := range append(otherRounds(mostBitRounds), 0, 1, 2, 16, mostBitRounds) {
			check(ring, rounds)
		}
	}
	for ring := range bitRings() {
		for _, rounds := range append(otherRounds(mostBitRounds), 512, mostRounds, mostRounds+1) {
			check(ring, rounds)
		}
	}
}

func TestBitsAfterIsNewMemory(t *testing.T) {
	for _, rounds := range []int{0, 1, 2, 256, mostBitRounds} {
		call := func(ring []int) [][]int { return [][]int{impl.BitsAfter(ring, rounds)} }
		checkNewRows(t, "BitsAfter", bitRings(), call)
	}
	for _, rounds := range []int{-1, 0, 1, mostBitRounds, mostBitRounds + 1} {
		checkLeavesRows(t, "BitsAfter", ringsAndOthers(), func(ring []int) { impl.BitsAfter(ring, rounds) })
	}
}

// Promise 47: what comes again comes again.

// checkAgain holds that a ring comes again after so many rounds, as it was so many rounds earlier.
func checkAgain(t *testing.T, ring []int, again, ago int) {
	t.Helper()
	if got, before, ok := impl.ComesAgain(ring); got != again || before != ago || !ok {
		t.Errorf("ComesAgain(%v) = %d, %d, %v, want %d, %d, true", ring, got, before, ok, again, ago)
	}
}

func TestComesAgainKnown(t *testing.T) {
	for _, k := range knownRings() {
		checkAgain(t, ringOf(k.ring), k.again, k.ago)
	}
}

func TestComesAgainIsTheFirst(t *testing.T) {
	for ring := range everyRing() {
		rings, before := untilAgain(ring)
		again := len(rings) - 1
		checkAgain(t, ring, again, again-before)
	}
}

func TestComesAgainIsAsItWas(t *testing.T) {
	for ring := range everyRing() {
		again, ago, ok := impl.ComesAgain(ring)
		if !ok || again < 1 || ago < 1 || ago > again {
			t.Fatalf("ComesAgain(%v) = %d, %d, %v", ring, again, ago, ok)
		}
		now := impl.RoundsOf(ring, again)
		if before := impl.RoundsOf(ring, again-ago); !slices.Equal(now, before) || len(now) != len(ring) {
			t.Fatalf("ComesAgain(%v) = %d, %d, but it is %v then, and was %v", ring, again, ago, now, before)
		}
		other := slices.Max(now)
		if slices.ContainsFunc(now, func(n int) bool { return n != 0 && n != other }) {
			t.Errorf("ComesAgain(%v) = %d, %d, but it is %v then, want 0 and one other number alone", ring, again, ago, now)
		}
	}
}

func TestComesAgainBehindTheEnd(t *testing.T) {
	for ring := range everyRing() {
		if end, ok := impl.EndOf(ring); ok {
			checkAgain(t, ring, end+1, 1)
		} else if _, ago, _ := impl.ComesAgain(ring); ago < 2 {
			t.Errorf("ComesAgain(%v) is as %d rounds earlier, but it does not end", ring, ago)
		}
	}
}

func TestComesAgainAtOnce(t *testing.T) {
	for count := 1; count <= impl.MaxRing; count++ {
		checkAgain(t, make([]int, count), 1, 1)
	}
	for ring := range everyRing() {
		// A ring that has come again is there again itself, after as many rounds as from the one that it was.
		rings, before := untilAgain(ring)
		again := len(rings) - 1
		checkAgain(t, rings[again], again-before, again-before)
	}
}

func TestComesAgainOthers(t *testing.T) {
	for _, ring := range otherRings() {
		if again, ago, ok := impl.ComesAgain(ring); again != -1 || ago != -1 || ok {
			t.Errorf("ComesAgain(%v) = %d, %d, %v, want -1, -1, false", ring, again, ago, ok)
		}
	}
}

func TestComesAgainLeavesItsArgument(t *testing.T) {
	checkLeavesRows(t, "ComesAgain", ringsAndOthers(), func(ring []int) { impl.ComesAgain(ring) })
}
