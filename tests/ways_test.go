package tests

import (
	"iter"
	"math"
	"math/big"
	"math/bits"
	"slices"
	"strings"
	"testing"
	"unsafe"

	"loop.example/carrytriangles/impl"
)

// numbersOfWays returns the numbers of ways of 0..MaxSteps steps up, written out.
func numbersOfWays() []int {
	return []int{
		1, 1, 2, 5, 14, 42, 132, 429, 1430, 4862, 16796, 58786, 208012, 742900, 2674440, 9694845, 35357670, 129644790, 477638700, 1767263190, 6564120420,
		24466267020, 91482563640, 343059613650, 1289904147324, 4861946401452, 18367353072152, 69533550916004, 263747951750360, 1002242216651368, 3814986502092304,
	}
}

// firstWays returns the ways of 0..4 opening brackets, written out.
func firstWays() [][]string {
	return [][]string{
		{""},
		{"()"},
		{"(())", "()()"},
		{"((()))", "(()())", "(())()", "()(())", "()()()"},
		{
			"(((())))", "((()()))", "((())())", "((()))()", "(()(()))", "(()()())", "(()())()",
			"(())(())", "(())()()", "()((()))", "()(()())", "()(())()", "()()(())", "()()()()",
		},
	}
}

// knownPlace is a way with its place.
type knownPlace struct {
	way   string
	place int
}

// knownPlaces returns ways of 5..MaxTold opening brackets: the first and the last ones, and such between.
func knownPlaces() []knownPlace {
	return []knownPlace{
		{"((((()))))", 0}, {"(((()())))", 1}, {"(((())()))", 2}, {"(((())))()", 4}, {"(()((())))", 14}, {"(()())(())", 21}, {"()(((())))", 28}, {"()()()(())", 40}, {"()()()()()", 41},
		{"(((((())))))", 0}, {"((((()()))))", 1}, {"((((())())))", 2}, {"((((()))))()", 5}, {"((()))(()())", 44}, {"(()()()(()))", 66}, {"()((((()))))", 90}, {"()()()()(())", 130}, {"()()()()()()", 131},
		{"((((((()))))))", 0}, {"(((((()())))))", 1}, {"(((((())()))))", 2}, {"(((((())))))()", 6}, {"((())()()())()", 143}, {"(()()((()())))", 214}, {"()(((((())))))", 297}, {"()()()()()(())", 427}, {"()()()()()()()", 428},
	}
}

// nested returns the way that is back at its end alone, of so many pairs of brackets.
func nested(pairs int) string {
	return strings.Repeat("(", pairs) + strings.Repeat(")", pairs)
}

// inRow returns the way that is back at once, again and again, of so many pairs of brackets.
func inRow(pairs int) string {
	return strings.Repeat("()", pairs)
}

// bracketTexts yields all texts of so many brackets, in the order of bytes.
func bracketTexts(count int) iter.Seq[string] {
	return func(yield func(string) bool) {
		for row := range sidesOf(count) {
			text := ""
			for _, closing := range row {
				// The first cell is the one that changes with each row, so it stands last.
				text = "()"[closing:closing+1] + text
			}
			if !yield(text) {
				return
			}
		}
	}
}

// withoutPairs takes pairs of brackets away until there are none: of a way nothing is left.
func withoutPairs(text string) string {
	for strings.Contains(text, "()") {
		text = strings.ReplaceAll(text, "()", "")
	}
	return text
}

// waysByPairs returns the ways of so many opening brackets, in order, picked from all texts of brackets without the program.
func waysByPairs(up int) []string {
	if up == 0 {
		return []string{""}
	}
	var ways []string
	for text := range bracketTexts(2 * up) {
		if withoutPairs(text) == "" {
			ways = append(ways, text)
		}
	}
	return ways
}

// everyWay returns the ways of 0..MaxTold opening brackets.
func everyWay() []string {
	var ways []string
	for up := range impl.MaxTold + 1 {
		ways = append(ways, waysByPairs(up)...)
	}
	return ways
}

// brokenTexts returns all texts of brackets, up to those of one more of each than may be, that go below the beginning or do not end there.
func brokenTexts() []string {
	var texts []string
	for count := 1; count <= 2*impl.MaxTold+2; count++ {
		for text := range bracketTexts(count) {
			if withoutPairs(text) != "" {
				texts = append(texts, text)
			}
		}
	}
	return texts
}

// longTexts returns ways that are too long: all of one more pair than may be, and some of more.
func longTexts() []string {
	texts := waysByPairs(impl.MaxTold + 1)
	for _, pairs := range []int{impl.MaxTold + 2, 2 * impl.MaxTold, 16, 64, 127, 128, 256, 1000, 1 << 16} {
		texts = append(texts, nested(pairs), inRow(pairs), inRow(1)+nested(pairs-1), nested(pairs-1)+inRow(1))
	}
	return texts
}

// otherBytes returns all bytes but those of brackets, as texts of one byte.
func otherBytes() []string {
	var texts []string
	for b := range 256 {
		if b != '(' && b != ')' {
			texts = append(texts, string([]byte{byte(b)}))
		}
	}
	return texts
}

// strangeTexts returns texts that have other bytes than brackets: in the stead of a bracket of a way, of a pair of them, and beside them, at each place.
func strangeTexts() []string {
	texts := append(otherBytes(), "（）", "()\u200b", "( )", "[]", "{}", "<>", "()()x", "x()", "UD", "10", "-1", "0", " ", "\n")
	ways := []string{"()", "(())", "()()", "(()())", "()(())", nested(impl.MaxTold), inRow(impl.MaxTold), nested(impl.MaxTold - 1), inRow(impl.MaxTold - 1)}
	for _, way := range ways {
		for _, other := range otherBytes() {
			for at := range len(way) {
				texts = append(texts, way[:at]+other+way[at+1:], way[:at]+other+way[at:], way[:at]+other+other+way[min(at+2, len(way)):])
			}
			texts = append(texts, way+other, other+way+other)
		}
	}
	return texts
}

// noWays returns texts that are no ways.
func noWays() []string {
	return slices.Concat(brokenTexts(), longTexts(), strangeTexts())
}

// short returns a text as far as it is worth to be shown.
func short(text string) string {
	if len(text) > 100 {
		return text[:100] + "..."
	}
	return text
}

// waysByFactors tells the ways of so many steps up and down by a product and a quotient of whole numbers, without differences.
func waysByFactors(up, down int) int {
	all := bigCell(up+down, down)
	all.Mul(all, big.NewInt(int64(up-down+1)))
	all.Div(all, big.NewInt(int64(up+1)))
	return int(all.Int64())
}

// otherSteps returns numbers of steps that are not in 0..most.
func otherSteps(most int) []int {
	return append(outside(most), most+3, 2*most+1, 2*most+2, 1<<32, 1<<32+1, math.MinInt+1, math.MaxInt-1)
}

// shareMemory reports whether two texts stand in the same memory.
func shareMemory(x, y string) bool {
	if x == "" || y == "" {
		return false
	}
	first, second := uintptr(unsafe.Pointer(unsafe.StringData(x))), uintptr(unsafe.Pointer(unsafe.StringData(y)))
	return first < second+uintptr(len(y)) && second < first+uintptr(len(x))
}

// Promise 48: ways come back first somewhere.

func TestMostSteps(t *testing.T) {
	if impl.MaxSteps != 30 || impl.MaxTold != 7 {
		t.Errorf("MaxSteps = %d and MaxTold = %d, want 30 and 7", impl.MaxSteps, impl.MaxTold)
	}
}

func TestWaysOfKnown(t *testing.T) {
	known := numbersOfWays()
	if len(known) != impl.MaxSteps+1 {
		t.Fatalf("%d numbers are known, want %d", len(known), impl.MaxSteps+1)
	}
	for up, want := range known {
		if got := impl.WaysOf(up); got != want {
			t.Errorf("WaysOf(%d) = %d, want %d", up, got, want)
		}
	}
}

func TestWaysOfCountsTexts(t *testing.T) {
	for up := range impl.MaxTold + 2 {
		if got, want := impl.WaysOf(up), len(waysByPairs(up)); got != want {
			t.Errorf("WaysOf(%d) = %d, want %d", up, got, want)
		}
	}
}

func TestWaysOfIsAPartOfTheMiddleCell(t *testing.T) {
	for up := range impl.MaxSteps + 1 {
		if got, want := impl.WaysOf(up)*(up+1), cellByFactors(2*up, up); got != want {
			t.Errorf("WaysOf(%d), times %d, is %d, want %d", up, up+1, got, want)
		}
	}
}

func TestWaysOfComeBackFirstSomewhere(t *testing.T) {
	for up := 1; up <= impl.MaxSteps; up++ {
		sum := 0
		for before := range up {
			sum += impl.WaysOf(before) * impl.WaysOf(up-1-before)
		}
		if got := impl.WaysOf(up); got != sum {
			t.Errorf("WaysOf(%d) = %d, want %d", up, got, sum)
		}
	}
}

func TestWaysOfIsOddForOneLessThanAPowerOfTwo(t *testing.T) {
	for up := range impl.MaxSteps + 1 {
		want := bits.OnesCount(uint(up+1)) == 1
		if got := impl.WaysOf(up); (got%2 == 1) != want {
			t.Errorf("WaysOf(%d) = %d, odd is %v, want %v", up, got, !want, want)
		}
	}
}

func TestWaysOfOthers(t *testing.T) {
	for _, up := range otherSteps(impl.MaxSteps) {
		if got := impl.WaysOf(up); got != -1 {
			t.Errorf("WaysOf(%d) = %d, want -1", up, got)
		}
	}
}

// Promise 49: ways come from two sides.

func TestWaysToKnown(t *testing.T) {
	first := [][]int{
		{1}, {1, 1}, {1, 2, 2}, {1, 3, 5, 5}, {1, 4, 9, 14, 14}, {1, 5, 14, 28, 42, 42}, {1, 6, 20, 48, 90, 132, 132}, {1, 7, 27, 75, 165, 297, 429, 429},
	}
	for up, row := range first {
		for down, want := range row {
			if got := impl.WaysTo(up, down); got != want {
				t.Errorf("WaysTo(%d, %d) = %d, want %d", up, down, got, want)
			}
		}
	}
	further := []struct{ up, down, want int }{
		{10, 3, 208}, {15, 14, 9694845}, {20, 10, 15737865}, {29, 28, 1002242216651368}, {29, 29, 1002242216651368},
		{30, 0, 1}, {30, 1, 30}, {30, 2, 464}, {30, 15, 177996090624}, {30, 28, 2812744285440936}, {30, 29, 3814986502092304}, {30, 30, 3814986502092304},
	}
	for _, k := range further {
		if got := impl.WaysTo(k.up, k.down); got != k.want {
			t.Errorf("WaysTo(%d, %d) = %d, want %d", k.up, k.down, got, k.want)
		}
	}
}

func TestWaysToIsADifferenceAndAPart(t *testing.T) {
	for up := range impl.MaxSteps + 1 {
		for down := range up + 1 {
			difference := cellByFactors(up+down, down)
			if down > 0 {
				difference -= cellByFactors(up+down, down-1)
			}
			if got, part := impl.WaysTo(up, down), waysByFactors(up, down); got != part || got != difference {
				t.Errorf("WaysTo(%d, %d) = %d, want %d by a quotient and %d by a difference", up, down, got, part, difference)
			}
		}
	}
}

func TestWaysToComeFromTwoSides(t *testing.T) {
	for up := 1; up <= impl.MaxSteps; up++ {
		for down := range up + 1 {
			sum := 0
			if down < up {
				sum += impl.WaysTo(up-1, down)
			}
			if down > 0 {
				sum += impl.WaysTo(up, down-1)
			}
			if got := impl.WaysTo(up, down); got != sum {
				t.Errorf("WaysTo(%d, %d) = %d, want %d", up, down, got, sum)
			}
		}
	}
}

func TestWaysToTheBeginningAreAllWays(t *testing.T) {
	for up, want := range numbersOfWays() {
		if got := impl.WaysTo(up, up); got != want || got != impl.WaysOf(up) {
			t.Errorf("WaysTo(%d, %d) = %d, want %d, as WaysOf tells", up, up, got, want)
		}
		if up == 0 {
			continue
		}
		if got := impl.WaysTo(up, up-1); got != want {
			t.Errorf("WaysTo(%d, %d) = %d, want %d", up, up-1, got, want)
		}
	}
}

func TestWaysToWithoutStepsDownIsOne(t *testing.T) {
	for up := range impl.MaxSteps + 1 {
		if got := impl.WaysTo(up, 0); got != 1 {
			t.Errorf("WaysTo(%d, 0) = %d, want 1", up, got)
		}
	}
}

func TestWaysToCountsTexts(t *testing.T) {
	for up := range impl.MaxTold + 1 {
		for down := range up + 1 {
			// The steps that are missing down stand at the end of one way, and of no other.
			count, ending := 0, strings.Repeat(")", up-down)
			for _, way := range waysByPairs(up) {
				if strings.HasSuffix(way, ending) {
					count++
				}
			}
			if got := impl.WaysTo(up, down); got != count {
				t.Errorf("WaysTo(%d, %d) = %d, want %d", up, down, got, count)
			}
		}
	}
}

func TestWaysToOthers(t *testing.T) {
	check := func(up, down int) {
		t.Helper()
		if got := impl.WaysTo(up, down); got != -1 {
			t.Errorf("WaysTo(%d, %d) = %d, want -1", up, down, got)
		}
	}
	for up := range impl.MaxSteps + 1 {
		for _, down := range otherSteps(up) {
			check(up, down)
		}
	}
	for _, up := range otherSteps(impl.MaxSteps) {
		for _, down := range append(otherSteps(impl.MaxSteps), 0, 1, 15, 29, 30, up-1, up, up+1, -up) {
			check(up, down)
		}
	}
}

// Promise 50: ways put into brackets are ways.

func TestWayOkKnown(t *testing.T) {
	for _, way := range []string{"", "()", "(())", "()()", "(())()", "()(())", "(()(()))(()())", nested(impl.MaxTold), inRow(impl.MaxTold)} {
		if !impl.WayOk(way) {
			t.Errorf("WayOk(%q) = false, want true", way)
		}
	}
}

func TestWayOkEveryWay(t *testing.T) {
	for _, way := range everyWay() {
		if !impl.WayOk(way) {
			t.Errorf("WayOk(%q) = false, want true", way)
		}
	}
}

func TestWayOkInBrackets(t *testing.T) {
	for _, way := range everyWay() {
		want := len(way)+2 <= 2*impl.MaxTold
		for _, further := range []string{"(" + way + ")", way + "()"} {
			if got := impl.WayOk(further); got != want {
				t.Errorf("WayOk(%q) = %v, want %v", further, got, want)
			}
		}
	}
}

func TestWayOkKnownOthers(t *testing.T) {
	tooEarly := []string{")", ")(", "))((", ")()(", "())", "())(", "(()))(", "()())(()", "(()))", "()())", ")()", nested(impl.MaxTold-1) + ")("}
	unlike := []string{"(", "((", "(()", "()(", "((()", "(((((((", "))", "())", ")))", nested(impl.MaxTold)[1:], nested(impl.MaxTold)[:2*impl.MaxTold-1]}
	strange := []string{"\x00", "\xff", "'*", "(*", "')", "(\x00)", "()\xff", "( )", "（）", "()\n", nested(impl.MaxTold-1) + "[]"}
	long := []string{nested(impl.MaxTold + 1), inRow(impl.MaxTold + 1), nested(impl.MaxTold) + "()", "()" + nested(impl.MaxTold)}
	for _, text := range slices.Concat(tooEarly, unlike, strange, long) {
		if impl.WayOk(text) {
			t.Errorf("WayOk(%q) = true, want false", text)
		}
	}
}

func TestWayOkOthers(t *testing.T) {
	for _, text := range noWays() {
		if impl.WayOk(text) {
			t.Errorf("WayOk(%q) = true, want false", short(text))
		}
	}
}

// Promise 51: all ways are told in order.

func TestWaysToldKnown(t *testing.T) {
	for up, want := range firstWays() {
		if got := impl.WaysTold(up); !slices.Equal(got, want) {
			t.Errorf("WaysTold(%d) = %q, want %q", up, got, want)
		}
	}
	for _, k := range knownPlaces() {
		ways := impl.WaysTold(len(k.way) / 2)
		if k.place >= len(ways) || ways[k.place] != k.way {
			t.Errorf("WaysTold(%d) = %q, want %q at the place %d", len(k.way)/2, ways, k.way, k.place)
		}
	}
}

func TestWaysToldAreAll(t *testing.T) {
	for up := range impl.MaxTold + 1 {
		if got, want := impl.WaysTold(up), waysByPairs(up); !slices.Equal(got, want) {
			t.Errorf("WaysTold(%d) = %q, want %q", up, got, want)
		}
	}
}

func TestWaysToldInOrder(t *testing.T) {
	for up := range impl.MaxTold + 1 {
		ways := impl.WaysTold(up)
		if want := numbersOfWays()[up]; len(ways) != want || len(ways) != impl.WaysOf(up) {
			t.Errorf("WaysTold(%d) has %d texts, want %d, as WaysOf tells", up, len(ways), want)
		}
		for place, way := range ways {
			if !impl.WayOk(way) || len(way) != 2*up {
				t.Errorf("WaysTold(%d) has %q, which is no way of so many brackets", up, way)
			}
			if place > 0 && way <= ways[place-1] {
				t.Errorf("WaysTold(%d) has %q before %q", up, ways[place-1], way)
			}
		}
	}
}

func TestWaysToldOthers(t *testing.T) {
	for _, up := range append(otherSteps(impl.MaxTold), impl.MaxSteps) {
		if got := impl.WaysTold(up); len(got) != 0 {
			t.Errorf("WaysTold(%d) has %d texts, want nothing", up, len(got))
		}
	}
}

func TestWaysToldIsNewMemory(t *testing.T) {
	for up := range impl.MaxTold + 1 {
		want := impl.WaysTold(up)
		spoilt := impl.WaysTold(up)
		spoilt = spoilt[:cap(spoilt)]
		for place := range spoilt {
			spoilt[place] = "spoilt"
		}
		if slices.Contains(want, "spoilt") {
			t.Errorf("WaysTold(%d): two results share memory", up)
		}
		if got := impl.WaysTold(up); !slices.Equal(got, want) {
			t.Errorf("WaysTold(%d) = %q after a result was written to, want %q", up, got, want)
		}
	}
}

// Promise 52: places tell ways.

func TestPlaceOfKnown(t *testing.T) {
	known := knownPlaces()
	for _, ways := range firstWays() {
		for place, way := range ways {
			known = append(known, knownPlace{way, place})
		}
	}
	for _, k := range known {
		if got, ok := impl.PlaceOf(k.way); got != k.place || !ok {
			t.Errorf("PlaceOf(%q) = %d, %v, want %d, true", k.way, got, ok, k.place)
		}
	}
}

func TestPlaceOfTellsTheWay(t *testing.T) {
	for _, way := range everyWay() {
		ways := impl.WaysTold(len(way) / 2)
		if got, ok := impl.PlaceOf(way); !ok || got < 0 || got >= len(ways) || ways[got] != way {
			t.Errorf("PlaceOf(%q) = %d, %v, where the way does not stand", way, got, ok)
		}
	}
}

func TestPlaceOfCountsTheWaysBefore(t *testing.T) {
	for up := range impl.MaxTold + 1 {
		for place, way := range waysByPairs(up) {
			if got, ok := impl.PlaceOf(way); got != place || !ok {
				t.Errorf("PlaceOf(%q) = %d, %v, want %d, true", way, got, ok, place)
			}
		}
	}
}

func TestPlaceOfFirstAndLast(t *testing.T) {
	for up := range impl.MaxTold + 1 {
		if got, ok := impl.PlaceOf(nested(up)); got != 0 || !ok {
			t.Errorf("PlaceOf(%q) = %d, %v, want 0, true", nested(up), got, ok)
		}
		if got, ok := impl.PlaceOf(inRow(up)); got != numbersOfWays()[up]-1 || !ok {
			t.Errorf("PlaceOf(%q) = %d, %v, want %d, true", inRow(up), got, ok, numbersOfWays()[up]-1)
		}
	}
}

func TestPlaceOfOthers(t *testing.T) {
	for _, text := range noWays() {
		if got, ok := impl.PlaceOf(text); got != -1 || ok {
			t.Errorf("PlaceOf(%q) = %d, %v, want -1, false", short(text), got, ok)
		}
	}
}

// Promise 53: each way is two ways.

// checkFirstBack holds that a way is two ways.
func checkFirstBack(t *testing.T, way, within, behind string) {
	t.Helper()
	if first, second, ok := impl.FirstBack(way); first != within || second != behind || !ok {
		t.Errorf("FirstBack(%q) = %q, %q, %v, want %q, %q, true", way, first, second, ok, within, behind)
	}
}

func TestFirstBackKnown(t *testing.T) {
	known := []struct{ way, within, behind string }{
		{"()", "", ""}, {"(())", "()", ""}, {"()()", "", "()"},
		{"((()))", "(())", ""}, {"(()())", "()()", ""}, {"(())()", "()", "()"}, {"()(())", "", "(())"}, {"()()()", "", "()()"},
		{"(())(())", "()", "(())"}, {"((()))()", "(())", "()"}, {"(()())()", "()()", "()"}, {"(())()()", "()", "()()"}, {"(()(()))(()())", "()(())", "(()())"},
		{"((((((()))))))", "(((((())))))", ""}, {"()()()()()()()", "", "()()()()()()"}, {"(((((())))))()", "((((()))))", "()"}, {"()(((((())))))", "", "(((((())))))"},
		{"(()()()()()())", "()()()()()()", ""}, {"((()))(((())))", "(())", "(((())))"},
	}
	for _, k := range known {
		checkFirstBack(t, k.way, k.within, k.behind)
	}
}

func TestFirstBackIsTwoWays(t *testing.T) {
	for _, way := range everyWay()[1:] {
		within, behind, ok := impl.FirstBack(way)
		if !ok || !impl.WayOk(within) || !impl.WayOk(behind) || "("+within+")"+behind != way {
			t.Errorf("FirstBack(%q) = %q, %q, %v, want two ways that tell it", way, within, behind, ok)
		}
	}
}

func TestFirstBackTellsWhatWasPutTogether(t *testing.T) {
	for up := range impl.MaxTold {
		for _, within := range waysByPairs(up) {
			for rest := range impl.MaxTold - up {
				for _, behind := range waysByPairs(rest) {
					checkFirstBack(t, "("+within+")"+behind, within, behind)
				}
			}
		}
	}
}

func TestFirstBackCountsAsWaysOf(t *testing.T) {
	for up := 1; up <= impl.MaxTold; up++ {
		counts := make([]int, up)
		for _, way := range impl.WaysTold(up) {
			within, _, _ := impl.FirstBack(way)
			counts[len(within)/2]++
		}
		for before, got := range counts {
			if want := impl.WaysOf(before) * impl.WaysOf(up-1-before); got != want {
				t.Errorf("%d ways of %d steps up are back first after %d, want %d", got, up, before+1, want)
			}
		}
	}
}

func TestFirstBackOthers(t *testing.T) {
	for _, text := range append(noWays(), "") {
		if within, behind, ok := impl.FirstBack(text); within != "" || behind != "" || ok {
			t.Errorf("FirstBack(%q) = %q, %q, %v, want two empty texts and false", short(text), short(within), short(behind), ok)
		}
	}
}

func TestFirstBackIsNewMemory(t *testing.T) {
	for _, way := range everyWay() {
		within, behind, _ := impl.FirstBack(way)
		if shareMemory(way, within) || shareMemory(way, behind) || shareMemory(within, behind) {
			t.Errorf("FirstBack(%q): a result shares memory with the argument, or with the other one", way)
		}
	}
}
