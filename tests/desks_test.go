package tests

import (
	"iter"
	"math"
	"slices"
	"strconv"
	"strings"
	"testing"

	"loop.example/carrytriangles/impl"
)

// deskOf returns the desk that a text tells: its rows with spaces between, the one that lies there behind those of before.
func deskOf(text string) impl.Desk {
	var rows [][]int
	for _, row := range strings.Fields(text) {
		rows = append(rows, cellsOf(row))
	}
	return deskOfRows(rows)
}

// deskOfRows returns the desk of rows, the last one of which lies there.
func deskOfRows(rows [][]int) impl.Desk {
	last := len(rows) - 1
	return impl.Desk{Now: rows[last], Past: rows[:last]}
}

// rowsOn returns the rows of a desk, the one that lies there behind those of before.
func rowsOn(d impl.Desk) [][]int {
	return slices.Concat(d.Past, [][]int{d.Now})
}

// alikeDesks reports whether two desks have the same rows.
func alikeDesks(x, y impl.Desk) bool {
	return alikeRows(rowsOn(x), rowsOn(y))
}

// noDesk reports whether a desk is the zero value.
func noDesk(d impl.Desk) bool {
	return len(d.Now) == 0 && len(d.Past) == 0
}

// pastOf returns so many rows of before, uneven ones of 1..MaxSide cells.
func pastOf(count, start int) [][]int {
	var rows [][]int
	for at := range count {
		rows = append(rows, unevenRow((start+5*at)%impl.MaxSide+1, 2, start+at))
	}
	return rows
}

// rowsOfDesks returns all rows of 1..5 cells, and plain and uneven ones of 6..MaxSide cells.
func rowsOfDesks() [][]int {
	var rows [][]int
	for cells := 1; cells <= impl.MaxSide; cells++ {
		if cells <= 5 {
			rows = slices.AppendSeq(rows, sidesOf(cells))
			continue
		}
		rows = append(rows, plainSides(cells)...)
		for start := range 6 {
			rows = append(rows, unevenRow(cells, 2, start))
		}
	}
	return rows
}

// everyDesk yields desks without rows of before, with one, with two, with as many as may be, and with one less.
func everyDesk() iter.Seq[impl.Desk] {
	return func(yield func(impl.Desk) bool) {
		for at, row := range rowsOfDesks() {
			for _, count := range []int{0, 1, 2, impl.MaxPast - 1, impl.MaxPast} {
				if !yield(impl.Desk{Now: row, Past: pastOf(count, at)}) {
					return
				}
			}
		}
	}
}

// fewDesks returns some of those desks, of one cell, of MaxRing, of MaxSide and of other numbers of cells.
func fewDesks() []impl.Desk {
	desks := []impl.Desk{deskOf("0"), deskOf("1"), deskOf("0 1"), deskOf("1001"), deskOf("010"), deskOf("1 01 110"), deskOf("11000100"), deskOf("110 101101101101")}
	for at, cells := range []int{1, 2, 3, 4, 7, impl.MaxRing, impl.MaxRing + 1, impl.MaxSide - 1, impl.MaxSide} {
		row := unevenRow(cells, 2, cells)
		desks = append(desks, impl.Desk{Now: row, Past: pastOf(at, at)}, impl.Desk{Now: row, Past: pastOf(impl.MaxPast, at)}, impl.Desk{Now: make([]int, cells), Past: pastOf(at, cells)})
	}
	return desks
}

// badRows returns some rows that are no sides.
func badRows() [][]int {
	rows := [][]int{nil, {}, make([]int, impl.MaxSide+1), slices.Repeat([]int{1}, impl.MaxSide+1), make([]int, 1000)}
	for _, bad := range []int{2, -1, 3, 48, 1 << 32, math.MinInt, math.MaxInt} {
		rows = append(rows, []int{bad}, []int{bad, 0, 1}, []int{0, bad, 1}, []int{1, 0, bad})
	}
	return append(rows, append(make([]int, impl.MaxSide-1), 2), append(make([]int, impl.MaxSide-1), -1))
}

// desksWithBad returns desks of which one row is a bad one: the one that lies there, or one of before, at each place.
func desksWithBad(bad []int) []impl.Desk {
	var desks []impl.Desk
	for count := range impl.MaxPast + 1 {
		for at := range count + 1 {
			rows := append(pastOf(count, at), []int{1, 0, 0, 1})
			rows[at] = bad
			desks = append(desks, deskOfRows(rows))
		}
	}
	return desks
}

// desksWithTooMany returns desks with more rows of before than may be.
func desksWithTooMany() []impl.Desk {
	var desks []impl.Desk
	for _, count := range []int{impl.MaxPast + 1, impl.MaxPast + 2, 2 * impl.MaxPast, impl.MaxLines, 256, 1000} {
		desks = append(desks, impl.Desk{Now: []int{1, 0, 0, 1}, Past: pastOf(count, 0)}, impl.Desk{Now: []int{0}, Past: slices.Repeat([][]int{{0}}, count)})
	}
	return desks
}

// otherDesks returns desks that are none.
func otherDesks() []impl.Desk {
	desks := append(desksWithTooMany(), impl.Desk{}, impl.Desk{Past: pastOf(impl.MaxPast+1, 0)})
	for _, bad := range badRows() {
		desks = append(desks, desksWithBad(bad)...)
	}
	return desks
}

// plainDeeds returns the deeds that can be done at some desk.
func plainDeeds() []impl.Deed {
	deeds := []impl.Deed{{Kind: impl.DkPut}, {Kind: impl.DkPut, N: 1}, {Kind: impl.DkUnder}, {Kind: impl.DkTurn}, {Kind: impl.DkRound}, {Kind: impl.DkBack}}
	for place := range impl.MaxSide {
		deeds = append(deeds, impl.Deed{Kind: impl.DkFlip, N: place})
	}
	return deeds
}

// otherDeeds returns deeds that can be done at no desk.
func otherDeeds() []impl.Deed {
	far := []int{-1, -2, 100, 255, 256, 1 << 32, 1<<32 + 1, math.MinInt, math.MinInt + 1, math.MaxInt - 1, math.MaxInt}
	var deeds []impl.Deed
	for _, n := range append(far, impl.MaxSide, impl.MaxSide+1, 63, 64, 99) {
		deeds = append(deeds, impl.Deed{Kind: impl.DkFlip, N: n})
	}
	for _, n := range append(far, 2, 3, 9, 10, 48, 49) {
		deeds = append(deeds, impl.Deed{Kind: impl.DkPut, N: n})
	}
	for _, n := range append(far, 1, 2, 9) {
		deeds = append(deeds, impl.Deed{Kind: impl.DkUnder, N: n}, impl.Deed{Kind: impl.DkTurn, N: n}, impl.Deed{Kind: impl.DkRound, N: n}, impl.Deed{Kind: impl.DkBack, N: n})
	}
	for _, kind := range append(far, 6, 7) {
		deeds = append(deeds, impl.Deed{Kind: kind}, impl.Deed{Kind: kind, N: 1}, impl.Deed{Kind: kind, N: -1}, impl.Deed{Kind: kind, N: kind})
	}
	return deeds
}

// rowDone tells a row after a deed, cell by cell; the row as it is if there is none.
func rowDone(row []int, a impl.Deed) []int {
	cells := len(row)
	switch {
	case a.Kind == impl.DkFlip && 0 <= a.N && a.N < cells:
		return slices.Concat(row[:a.N], turnedCells(row[a.N:a.N+1]), row[a.N+1:])
	case a.Kind == impl.DkPut && (a.N == 0 || a.N == 1) && cells < impl.MaxSide:
		return slices.Concat(row, []int{a.N})
	case a.Kind == impl.DkUnder && a.N == 0 && cells >= 2:
		return differences(row)[:cells-1]
	case a.Kind == impl.DkTurn && a.N == 0:
		var turned []int
		for ; len(row) > 0; row = differences(row)[:len(row)-1] {
			turned = append(turned, row[len(row)-1])
		}
		return turned
	case a.Kind == impl.DkRound && a.N == 0 && cells <= impl.MaxRing:
		return differences(row)
	}
	return row
}

// deskDone tells a desk after a deed, and whether it can be done, without the program.
func deskDone(d impl.Desk, a impl.Deed) (impl.Desk, bool) {
	if a == (impl.Deed{Kind: impl.DkBack}) && len(d.Past) > 0 {
		return deskOfRows(d.Past), true
	}
	row := rowDone(d.Now, a)
	if slices.Equal(row, d.Now) {
		return d, false
	}
	rows := append(rowsOn(d), row)
	return deskOfRows(rows[max(len(rows)-impl.MaxPast-1, 0):]), true
}

// picked returns so many things, picked unevenly of some.
func picked[Thing any](things []Thing, count, start int) []Thing {
	var list []Thing
	for _, at := range unevenRow(count, len(things), start) {
		list = append(list, things[at])
	}
	return list
}

// deedLists returns lists of none up to as many deeds as may be, such that cannot be done among them.
func deedLists() [][]impl.Deed {
	lists := [][]impl.Deed{nil, {}, {{Kind: impl.DkBack}}, otherDeeds()[:impl.MaxLines]}
	for _, count := range []int{1, 2, 3, impl.MaxPast, impl.MaxPast + 1, impl.MaxLines - 1, impl.MaxLines} {
		for start := range 6 {
			lists = append(lists, picked(plainDeeds(), count, start), picked(slices.Concat(plainDeeds(), otherDeeds()), count, start))
		}
	}
	return lists
}

// toldDeeds returns all deeds that have a text, with it.
func toldDeeds() map[string]impl.Deed {
	told := map[string]impl.Deed{"under": {Kind: impl.DkUnder}, "turn": {Kind: impl.DkTurn}, "round": {Kind: impl.DkRound}, "back": {Kind: impl.DkBack}}
	for n := range 100 {
		told["flip "+strconv.Itoa(n)] = impl.Deed{Kind: impl.DkFlip, N: n}
	}
	for n := range 10 {
		told["put "+strconv.Itoa(n)] = impl.Deed{Kind: impl.DkPut, N: n}
	}
	return told
}

// deedsOf returns the deeds that a text tells, their texts with commas between.
func deedsOf(text string) []impl.Deed {
	told := toldDeeds()
	var list []impl.Deed
	for line := range strings.SplitSeq(text, ", ") {
		if a, is := told[line]; is {
			list = append(list, a)
		}
	}
	return list
}

// untoldDeeds returns deeds that have no text.
func untoldDeeds() []impl.Deed {
	var deeds []impl.Deed
	for _, n := range []int{-1, 100, 101, 999, 1 << 32, math.MinInt, math.MaxInt} {
		for kind := impl.DkFlip; kind <= impl.DkBack; kind++ {
			deeds = append(deeds, impl.Deed{Kind: kind, N: n})
		}
	}
	for kind := impl.DkPut; kind <= impl.DkBack; kind++ {
		deeds = append(deeds, impl.Deed{Kind: kind, N: 10}, impl.Deed{Kind: kind, N: 99})
	}
	for kind := impl.DkUnder; kind <= impl.DkBack; kind++ {
		deeds = append(deeds, impl.Deed{Kind: kind, N: 1}, impl.Deed{Kind: kind, N: 9})
	}
	for _, kind := range []int{-1, 6, 7, 256, 1 << 32, math.MinInt, math.MaxInt} {
		deeds = append(deeds, impl.Deed{Kind: kind}, impl.Deed{Kind: kind, N: 1}, impl.Deed{Kind: kind, N: -1})
	}
	return deeds
}

// journals returns journals with their deeds: without any, with each alone, with few and with many.
func journals() map[string][]impl.Deed {
	told := toldDeeds()
	var texts []string
	for text := range told {
		texts = append(texts, text)
	}
	slices.Sort(texts)
	all := map[string][]impl.Deed{"": nil}
	add := func(lines []string) {
		var list []impl.Deed
		for _, line := range lines {
			list = append(list, told[line])
		}
		all[strings.Join(lines, "\n")+"\n"] = list
	}
	for at := range texts {
		add(texts[at : at+1])
	}
	add(texts)
	for _, count := range []int{2, 3, 8, impl.MaxLines - 1, impl.MaxLines, impl.MaxLines + 1, 1000} {
		for start := range 4 {
			add(picked(texts, count, start))
			add(picked([]string{"flip 0", "flip 1", "put 0", "put 1", "put 2", "under", "turn", "round", "back"}, count, start))
		}
	}
	return all
}

// said is a line with its answer.
type said struct{ line, answer string }

// saidOfNumbers returns questions that no row has a part in, with their answers.
func saidOfNumbers() []said {
	return []said{
		{"cell 0 0", "1"}, {"cell 4 2", "6"}, {"cell 10 5", "252"}, {"cell 5 0", "1"}, {"cell 5 5", "1"}, {"cell 5 6", "0"}, {"cell 60 30", "118264581564861424"}, {"cell 60 60", "1"},
		{"cell 60 61", "0"}, {"cell 0 999999999", "0"}, {"cell 61 0", "none"}, {"cell 61 30", "none"}, {"cell 999999999 999999999", "none"},
		{"shared 0", "none"}, {"shared 1", "none"}, {"shared 2", "2"}, {"shared 6", "1"}, {"shared 32", "2"}, {"shared 49", "7"}, {"shared 59", "59"}, {"shared 60", "1"}, {"shared 61", "none"},
		{"shared 999999999", "none"}, {"ways 0", "1"}, {"ways 1", "1"}, {"ways 5", "42"}, {"ways 19", "1767263190"}, {"ways 30", "3814986502092304"}, {"ways 31", "none"}, {"ways 999999999", "none"},
		{"kept 0 2", "1"}, {"kept 13 2", "8"}, {"kept 13 3", "8"}, {"kept 1000000 7", "4096"}, {"kept 999999999 2", "2097152"}, {"kept 999999999 13", "2471040"},
		{"kept 13 0", "none"}, {"kept 13 1", "none"}, {"kept 13 4", "none"}, {"kept 13 17", "none"},
		{"left 0 0 2", "1"}, {"left 13 5 2", "1"}, {"left 5 13 2", "0"}, {"left 5 6 7", "0"}, {"left 1000 300 13", "10"}, {"left 999999999 999999999 13", "1"}, {"left 999999999 123456789 11", "0"},
		{"left 13 5 0", "none"}, {"left 13 5 6", "none"}, {"left 13 5 999999999", "none"},
		{"often 0 0 2", "0"}, {"often 8 3 2", "3"}, {"often 8 8 2", "0"}, {"often 8 9 2", "none"}, {"often 100 50 3", "4"}, {"often 499999999 1 2", "0"}, {"often 499999999 249999999 13", "4"},
		{"often 268435456 134217727 2", "28"}, {"often 500000000 1 2", "none"}, {"often 8 3 4", "none"},
		{"carries 0 0 2", "0"}, {"carries 95 5 10", "2"}, {"carries 5 95 10", "2"}, {"carries 1 1 2", "1"}, {"carries 268435455 1 2", "28"}, {"carries 499999999 499999999 16", "5"},
		{"carries 499999999 499999999 10", "8"}, {"carries 500000000 0 10", "none"}, {"carries 0 500000000 10", "none"}, {"carries 95 5 1", "none"}, {"carries 95 5 17", "none"}, {"carries 95 5 0", "none"},
	}
}

// saidOfRow is a row with what is answered of it.
type saidOfRow struct{ row, ones, last, end, balanced string }

// saidOfRows returns rows with what is answered of them.
func saidOfRows() []saidOfRow {
	return []saidOfRow{
		{"0", "0", "0", "0", "no"}, {"1", "1", "1", "1", "no"}, {"00", "0", "0", "0", "no"}, {"01", "2", "1", "2", "no"}, {"10", "2", "1", "2", "no"}, {"11", "2", "0", "1", "no"},
		{"101", "4", "0", "none", "no"}, {"001", "3", "1", "none", "yes"}, {"010", "3", "0", "none", "yes"}, {"0110", "6", "0", "3", "no"}, {"1001", "6", "0", "3", "no"}, {"0100", "5", "1", "4", "yes"},
		{"1111", "4", "0", "1", "no"}, {"01101", "10", "1", "none", "no"}, {"0110110", "18", "0", "none", "no"}, {"1010101", "10", "0", "none", "no"},
		{"11000100", "18", "1", "8", "yes"}, {"10010001", "19", "1", "8", "no"}, {"00000000", "0", "0", "0", "no"}, {"11111111", "8", "0", "1", "no"},
		{"100000000", "9", "1", "none", "no"}, {"000000000", "0", "0", "none", "no"}, {"1101001000", "28", "0", "none", "no"}, {"010101010101", "17", "0", "none", "no"},
		{"000000000000", "0", "0", "none", "no"}, {"111111111111", "12", "0", "none", "no"}, {"110100100011", "43", "1", "none", "no"}, {"001011101000", "41", "0", "none", "no"},
	}
}

// answersOf tells what is answered of a row, without the program.
func answersOf(row []int) []said {
	text := ""
	for _, cell := range row {
		text += strconv.Itoa(cell)
	}
	ones, cells, last := 0, 0, 0
	for lower := row; len(lower) > 0; lower = differences(lower)[:len(lower)-1] {
		ones, cells, last = ones+total(lower), cells+len(lower), lower[0]
	}
	end, balanced := "none", "no"
	if rings, _ := untilAgain(row); len(row) <= impl.MaxRing && slices.ContainsFunc(rings, allNoughts) {
		end = strconv.Itoa(slices.IndexFunc(rings, allNoughts))
	}
	if ones == cells-ones {
		balanced = "yes"
	}
	return []said{{"row", text}, {"ones", strconv.Itoa(ones)}, {"last", strconv.Itoa(last)}, {"end", end}, {"balanced", balanced}}
}

// goodDeeds returns texts of deeds of each word.
func goodDeeds() []string {
	return []string{"flip 0", "flip 3", "flip 9", "flip 10", "flip 42", "flip 99", "put 0", "put 1", "put 9", "under", "turn", "round", "back"}
}

// goodQuestions returns questions of each word.
func goodQuestions() []string {
	return []string{"row", "ones", "last", "end", "balanced", "cell 10 5", "cell 0 0", "shared 49", "ways 5", "ways 0", "kept 13 2", "left 13 5 2", "often 8 3 2", "carries 95 5 10", "carries 499999999 0 16"}
}

// brokenLines returns texts that are a line but for one thing: so they are none.
func brokenLines(line string) []string {
	parts := strings.Split(line, " ")
	word, behind := parts[0], line[len(parts[0]):]
	texts := []string{
		line + " ", line + "  ", " " + line, line + " 0", line + " 1", line + " x", line + line, line + " " + line, line[1:], word[:len(word)-1] + behind, word + "s" + behind,
		strings.ToUpper(line), strings.ToUpper(line[:1]) + line[1:], "ｆ" + line[1:], "а" + line[1:], "x" + line, "x " + line, line + "\r", line + "\r\n", line + "\n\n",
	}
	for at := 1; at < len(parts); at++ {
		ahead, n, rest := strings.Join(parts[:at], " "), parts[at], strings.Join(append([]string{""}, parts[at+1:]...), " ")
		texts = append(texts, ahead+rest, ahead+"  "+n+rest, ahead+n+rest, ahead+"\t"+n+rest, ahead+"\u00a0"+n+rest)
		for _, bad := range []string{
			"", "0" + n, "00" + n, "+" + n, "-" + n, "−" + n, n + "+", n + ".", n + ".0", n + ",", n + "e0", n + "x", "x", "0x" + n, n + "_0", "'" + n, "1000000000", "9999999999", "0000000001", "4294967296",
			"4294967297", "9223372036854775807", "9223372036854775808", "18446744073709551616", "18446744073709551617", "-1", "-0", "+0", "00", "01", "１", "٣", "one",
		} {
			texts = append(texts, ahead+" "+bad+rest)
		}
	}
	for b := range 256 {
		other := string([]byte{byte(b)})
		if strings.ContainsAny(other, "0123456789abcdefghijklmnopqrstuvwxyz ") {
			continue
		}
		for at := range len(line) {
			texts = append(texts, line[:at]+other+line[at:], line[:at]+other+line[at+1:])
		}
		texts = append(texts, line+other, other+line+other)
	}
	return texts
}

// strangeLines returns texts that are neither texts of deeds nor questions.
func strangeLines() []string {
	return []string{
		"", " ", "  ", "\n", "\x00", "\xff", "0", "1", "-1", "flip 100", "flip 101", "flip 999", "flip 1000", "flip 999999999", "put 10", "put 11", "put 99", "put 999999999", "under 0", "turn 0", "round 0", "back 0",
		"under 1", "flip", "put", "flip 1 1", "put 0 0", "row 0", "ones 0", "last 0", "end 0", "balanced 0", "cell", "cell 4", "cell 4 2 1", "shared", "shared 2 3", "ways", "ways 1 2", "kept", "kept 13", "kept 13 2 2",
		"left", "left 13 5", "left 13 5 2 1", "often", "often 8 3", "often 8 3 2 1", "carries", "carries 95 5", "carries 95 5 10 1", "what", "ok", "not", "none", "yes", "no", "Flip 0", "FLIP 0", "flips 0", "forward",
		"flip0", "flip\t0", "flip -1", "flip +1", "flip 01", "cell 04 2", "cell 4 02", "cell  4 2", "cell 4  2", " cell 4 2", "cell 4 2 ", "cell -4 2", "cell 1000000000 0", "ways 9999999999", "флип 0", "зеркало", "turn turn",
		"turn\nturn", "under\nunder\n", "slope 3 2", "turns 3 2", "middle 4", "drawn 4", "0 0", "4 2 cell", strings.Repeat("x", 1<<16), strings.Repeat(" ", 1<<16), strings.Repeat("row ", 1<<12), "flip " + strings.Repeat("1", 1<<16),
	}
}

// everyStrangeLine returns those, and texts that are good lines but for one thing.
func everyStrangeLine() []string {
	texts := strangeLines()
	for _, line := range slices.Concat(goodDeeds(), goodQuestions()) {
		texts = append(texts, brokenLines(line)...)
	}
	return texts
}

// lineLists returns lists of none up to as many lines as may be, of all kinds.
func lineLists() [][]string {
	lists := [][]string{nil, {}, {""}, goodQuestions(), goodDeeds()}
	deeds := []string{"flip 0", "flip 1", "flip 2", "put 0", "put 1", "put 1", "under", "turn", "round", "back", "put 2", "flip 99"}
	all := slices.Concat(deeds, deeds, goodQuestions(), strangeLines()[:40])
	for _, count := range []int{1, 2, 3, 9, impl.MaxLines - 3, impl.MaxLines - 1, impl.MaxLines} {
		for start := range 6 {
			lists = append(lists, picked(deeds, count, start), picked(all, count, start))
		}
	}
	return lists
}

// checkNewDesks holds that a call writes into no row of the desks, nor into the slice of those of before, and that its results share memory neither with them, nor with each other, nor within one.
func checkNewDesks(t *testing.T, name string, desks []impl.Desk, call func(impl.Desk) impl.Desk) {
	t.Helper()
	for _, d := range desks {
		rows := rowsOn(d)
		for at := range rows {
			checkNewRows(t, name, slices.Values(rows[at:at+1]), func(row []int) [][]int {
				there := slices.Clone(rows)
				there[at] = row
				return rowsOn(call(deskOfRows(there)))
			})
		}
		mark := []int{-5}
		room := slices.Concat(d.Past, [][]int{mark, mark})
		there := impl.Desk{Now: d.Now, Past: room[:len(d.Past)]}
		was := slices.Clone(room)
		spoilt, other := call(there), call(there)
		want := copied(rowsOn(other))
		past := spoilt.Past[:cap(spoilt.Past)]
		for at := range past {
			past[at] = mark
		}
		if !alikeRows(room, was) || !alikeRows(copied(rowsOn(other)), want) {
			t.Fatalf("%s(%v): rows of before stand in memory of the argument, or of another result", name, d)
		}
	}
}

// checkLeavesDesks holds that a call writes into no row of the desks, be they such or not.
func checkLeavesDesks(t *testing.T, name string, call func(impl.Desk)) {
	t.Helper()
	for _, d := range slices.Concat(fewDesks(), otherDesks()) {
		var memory, rows [][]int
		for _, row := range rowsOn(d) {
			around, there := inMemory(row)
			memory, rows = append(memory, around), append(rows, there)
		}
		was := slices.Concat(memory...)
		call(deskOfRows(rows))
		if !slices.Equal(slices.Concat(memory...), was) {
			t.Fatalf("%s(%v): the argument was written to", name, d)
		}
	}
}

// Promise 60: desks can forget.

func TestMostOfADesk(t *testing.T) {
	if impl.MaxPast != 8 || impl.MaxLines != 40 {
		t.Errorf("MaxPast = %d and MaxLines = %d, want 8 and 40", impl.MaxPast, impl.MaxLines)
	}
	kinds := []int{impl.DkFlip, impl.DkPut, impl.DkUnder, impl.DkTurn, impl.DkRound, impl.DkBack}
	if !slices.Equal(kinds, []int{0, 1, 2, 3, 4, 5}) {
		t.Errorf("the kinds of deeds are %v, want 0..5", kinds)
	}
}

func TestDeskOkKnown(t *testing.T) {
	for _, text := range []string{"0", "1", "000000000000", "111111111111", "1 0", "1 01 110", "1 01 110 0 11 1010 00100 110", "1 01 110 0 11 1010 00100 000000000001 110", "0 0 0 0 0 0 0 0 0"} {
		if !impl.DeskOk(deskOf(text)) {
			t.Errorf("DeskOk(%s) = false, want true", text)
		}
	}
}

func TestDeskOkForgets(t *testing.T) {
	for row := range everySide() {
		if !impl.DeskOk(impl.Desk{Now: row}) || !impl.DeskOk(impl.Desk{Now: row, Past: [][]int{}}) {
			t.Errorf("DeskOk of the row %v without rows of before is false, want true", row)
		}
	}
	for d := range everyDesk() {
		for forgotten := range len(d.Past) + 1 {
			if fewer := (impl.Desk{Now: d.Now, Past: d.Past[forgotten:]}); !impl.DeskOk(fewer) {
				t.Errorf("DeskOk(%v) = false, want true", fewer)
			}
		}
	}
}

func TestDeskOkOthers(t *testing.T) {
	desks := otherDesks()
	for _, bad := range otherSides() {
		desks = append(desks, impl.Desk{Now: bad}, impl.Desk{Now: []int{1}, Past: [][]int{bad}}, impl.Desk{Now: []int{0, 1}, Past: [][]int{{1}, bad, {0}}})
	}
	for _, d := range desks {
		if impl.DeskOk(d) {
			t.Errorf("DeskOk(%v) = true, want false", d)
		}
	}
}

func TestDeskOkLeavesItsArgument(t *testing.T) {
	checkLeavesDesks(t, "DeskOk", func(d impl.Desk) { impl.DeskOk(d) })
}

// Promise 61: new desks have one row.

func TestDeskNewHasOneRow(t *testing.T) {
	for row := range everySide() {
		if d, ok := impl.DeskNew(row); !ok || !slices.Equal(d.Now, row) || len(d.Past) != 0 || !impl.DeskOk(d) {
			t.Errorf("DeskNew(%v) = %v, %v, want the row alone", row, d, ok)
		}
	}
}

func TestDeskNewOthers(t *testing.T) {
	for _, row := range otherSides() {
		if d, ok := impl.DeskNew(row); ok || !noDesk(d) {
			t.Errorf("DeskNew(%v) = %v, %v, want nothing and false", row, d, ok)
		}
	}
}

func TestDeskNewIsNewMemory(t *testing.T) {
	checkNewRows(t, "DeskNew", everySide(), func(row []int) [][]int {
		d, _ := impl.DeskNew(row)
		return rowsOn(d)
	})
	checkLeavesRows(t, "DeskNew", sidesAndOthers(), func(row []int) { impl.DeskNew(row) })
}

// Promise 54: what was done can be undone.

// checkDone holds that a desk is another one after a deed, or that it stays if the deed cannot be done.
func checkDone(t *testing.T, d impl.Desk, a impl.Deed, want impl.Desk, done bool) {
	t.Helper()
	if got, ok := impl.DeskDo(d, a); !alikeDesks(got, want) || ok != done {
		t.Errorf("DeskDo(%v, %v) = %v, %v, want %v, %v", d, a, got, ok, want, done)
	}
}

func TestDeskDoKnown(t *testing.T) {
	known := []struct {
		desk    string
		kind, n int
		want    string
	}{
		{"1001", impl.DkFlip, 0, "1001 0001"}, {"1001", impl.DkFlip, 2, "1001 1011"}, {"1001", impl.DkFlip, 3, "1001 1000"}, {"1001", impl.DkPut, 0, "1001 10010"}, {"1001", impl.DkPut, 1, "1001 10011"},
		{"1001", impl.DkUnder, 0, "1001 101"}, {"1001", impl.DkTurn, 0, "1001 1110"}, {"1001", impl.DkRound, 0, "1001 1010"},
		{"0", impl.DkFlip, 0, "0 1"}, {"0", impl.DkPut, 0, "0 00"}, {"0", impl.DkPut, 1, "0 01"}, {"1", impl.DkFlip, 0, "1 0"}, {"1", impl.DkPut, 0, "1 10"}, {"1", impl.DkRound, 0, "1 0"},
		{"1 10", impl.DkUnder, 0, "1 10 1"}, {"1 10", impl.DkTurn, 0, "1 10 01"}, {"1 10", impl.DkRound, 0, "1 10 11"}, {"1 10", impl.DkBack, 0, "1"},
		{"0 101 11", impl.DkUnder, 0, "0 101 11 0"}, {"0 101 11", impl.DkTurn, 0, "0 101 11 10"}, {"0 101 11", impl.DkRound, 0, "0 101 11 00"}, {"0 101 11", impl.DkBack, 0, "0 101"},
		{"01001101", impl.DkRound, 0, "01001101 11010111"}, {"10 10000000", impl.DkRound, 0, "10 10000000 10000001"}, {"10 10000000", impl.DkTurn, 0, "10 10000000 00000001"},
		{"11 00000011", impl.DkRound, 0, "11 00000011 00000101"}, {"10110110110", impl.DkPut, 0, "10110110110 101101101100"}, {"10110110110", impl.DkPut, 1, "10110110110 101101101101"},
		{"1 101101101101", impl.DkFlip, 0, "1 101101101101 001101101101"}, {"1 101101101101", impl.DkFlip, 11, "1 101101101101 101101101100"},
		{"1 101101101101", impl.DkUnder, 0, "1 101101101101 11011011011"}, {"1 101101101101", impl.DkTurn, 0, "1 101101101101 110110110110"}, {"1 101101101101", impl.DkBack, 0, "1"},
		{"111111111111", impl.DkUnder, 0, "111111111111 00000000000"}, {"111111111111", impl.DkTurn, 0, "111111111111 100000000000"}, {"000000000001", impl.DkTurn, 0, "000000000001 111111111111"},
		{"1 01 110 0 11 1010 00100 110", impl.DkFlip, 1, "1 01 110 0 11 1010 00100 110 100"}, {"1 01 110 0 11 1010 00100 110", impl.DkBack, 0, "1 01 110 0 11 1010 00100"},
		{"1 01 110 0 11 1010 00100 0001 110", impl.DkFlip, 1, "01 110 0 11 1010 00100 0001 110 100"}, {"1 01 110 0 11 1010 00100 0001 110", impl.DkPut, 1, "01 110 0 11 1010 00100 0001 110 1101"},
		{"1 01 110 0 11 1010 00100 0001 110", impl.DkUnder, 0, "01 110 0 11 1010 00100 0001 110 01"}, {"1 01 110 0 11 1010 00100 0001 110", impl.DkTurn, 0, "01 110 0 11 1010 00100 0001 110 011"},
		{"1 01 110 0 11 1010 00100 0001 110", impl.DkRound, 0, "01 110 0 11 1010 00100 0001 110 011"}, {"1 01 110 0 11 1010 00100 0001 110", impl.DkBack, 0, "1 01 110 0 11 1010 00100 0001"},
		{"1 01 110 0 11 1010 00100 0001 0001", impl.DkBack, 0, "1 01 110 0 11 1010 00100 0001"}, {"0 0", impl.DkBack, 0, "0"},
	}
	for _, k := range known {
		checkDone(t, deskOf(k.desk), impl.Deed{Kind: k.kind, N: k.n}, deskOf(k.want), true)
	}
}

func TestDeskDoKnownThatCannotBeDone(t *testing.T) {
	known := []struct {
		desk    string
		kind, n int
	}{
		{"1001", impl.DkFlip, -1}, {"1001", impl.DkFlip, 4}, {"1001", impl.DkPut, -1}, {"1001", impl.DkPut, 2}, {"1001", impl.DkUnder, 1}, {"1001", impl.DkTurn, 1}, {"1001", impl.DkTurn, -1}, {"1001", impl.DkRound, 1},
		{"1001", impl.DkBack, 0}, {"1 1001", impl.DkBack, 1}, {"1 1001", impl.DkBack, -1}, {"1001", -1, 0}, {"1001", 6, 0}, {"1001", 6, 1}, {"101101101101", impl.DkPut, 0}, {"101101101101", impl.DkPut, 1},
		{"101101101101", impl.DkFlip, 12}, {"0", impl.DkFlip, 1}, {"0", impl.DkUnder, 0}, {"1", impl.DkUnder, 0}, {"0", impl.DkTurn, 0}, {"1", impl.DkTurn, 0}, {"0", impl.DkRound, 0}, {"0", impl.DkBack, 0},
		{"00", impl.DkTurn, 0}, {"010", impl.DkTurn, 0}, {"1101", impl.DkTurn, 0}, {"000000000000", impl.DkTurn, 0}, {"00", impl.DkRound, 0}, {"00000000", impl.DkRound, 0},
		{"000000000", impl.DkRound, 0}, {"100110010", impl.DkRound, 0}, {"101101101101", impl.DkRound, 0}, {"1 01 110 0 11 1010 00100 0001 0", impl.DkUnder, 0}, {"1 01 110 0 11 1010 00100 0001 00", impl.DkTurn, 0},
	}
	for _, k := range known {
		checkDone(t, deskOf(k.desk), impl.Deed{Kind: k.kind, N: k.n}, deskOf(k.desk), false)
	}
}

func TestDeskDoEveryRow(t *testing.T) {
	for row := range everySide() {
		for _, past := range [][][]int{nil, {{1}}} {
			for _, a := range plainDeeds() {
				d := impl.Desk{Now: row, Past: past}
				want, done := deskDone(d, a)
				checkDone(t, d, a, want, done)
			}
		}
	}
}

func TestDeskDoEveryDesk(t *testing.T) {
	for d := range everyDesk() {
		for _, a := range slices.Concat(plainDeeds(), otherDeeds()) {
			want, done := deskDone(d, a)
			checkDone(t, d, a, want, done)
		}
	}
}

func TestDeskDoWhatCannotBeDoneChangesNothing(t *testing.T) {
	for d := range everyDesk() {
		for _, a := range otherDeeds() {
			checkDone(t, d, a, d, false)
		}
	}
}

func TestDeskDoIsUndone(t *testing.T) {
	for d := range everyDesk() {
		for _, a := range plainDeeds() {
			after, ok := impl.DeskDo(d, a)
			if !impl.DeskOk(after) {
				t.Fatalf("DeskDo(%v, %v) = %v, want a desk", d, a, after)
			}
			if a.Kind == impl.DkBack || !ok {
				continue
			}
			if a.Kind == impl.DkTurn && impl.OnesIn(after.Now) != impl.OnesIn(d.Now) {
				t.Errorf("DeskDo(%v, %v) = %v, whose triangle has as many ones no more", d, a, after)
			}
			// With as many rows of before as may be, the first one is gone for ever.
			want := impl.Desk{Now: d.Now, Past: d.Past[max(len(d.Past)+1-impl.MaxPast, 0):]}
			checkDone(t, after, impl.Deed{Kind: impl.DkBack}, want, true)
		}
	}
}

func TestDeskDoGoesBackToTheFirst(t *testing.T) {
	for d := range everyDesk() {
		for left := range slices.Backward(d.Past) {
			want := impl.Desk{Now: d.Past[left], Past: d.Past[:left]}
			checkDone(t, impl.Desk{Now: []int{1, 1}, Past: d.Past[:left+1]}, impl.Deed{Kind: impl.DkBack}, want, true)
		}
		checkDone(t, impl.Desk{Now: d.Now}, impl.Deed{Kind: impl.DkBack}, impl.Desk{Now: d.Now}, false)
	}
}

func TestDeskDoOthers(t *testing.T) {
	for _, d := range otherDesks() {
		for _, a := range slices.Concat(plainDeeds(), otherDeeds()) {
			if got, ok := impl.DeskDo(d, a); ok || !noDesk(got) {
				t.Errorf("DeskDo(%v, %v) = %v, %v, want nothing and false", d, a, got, ok)
			}
		}
	}
}

func TestDeskDoIsNewMemory(t *testing.T) {
	for _, a := range append(plainDeeds(), impl.Deed{Kind: impl.DkFlip, N: -1}, impl.Deed{Kind: impl.DkPut, N: 2}, impl.Deed{Kind: impl.DkTurn, N: 1}, impl.Deed{Kind: impl.DkBack, N: 1}, impl.Deed{Kind: 6}) {
		checkNewDesks(t, "DeskDo", fewDesks(), func(d impl.Desk) impl.Desk {
			after, _ := impl.DeskDo(d, a)
			return after
		})
		checkLeavesDesks(t, "DeskDo", func(d impl.Desk) { impl.DeskDo(d, a) })
	}
}

// Promise 55: whatever is done, it is a row.

// checkRun holds that a desk is another one after deeds, of which so many were done.
func checkRun(t *testing.T, d impl.Desk, list []impl.Deed, want impl.Desk, done int) {
	t.Helper()
	if got, n := impl.DeskRun(d, list); !alikeDesks(got, want) || n != done {
		t.Errorf("DeskRun(%v, %v) = %v, %d, want %v, %d", d, list, got, n, want, done)
	}
}

func TestDeskRunKnown(t *testing.T) {
	known := []struct {
		desk, deeds, want string
		done              int
	}{
		{"1001", "", "1001", 0}, {"1 01", "", "1 01", 0}, {"1001", "back", "1001", 0}, {"1001", "under, turn, back", "1001 101", 3}, {"1001", "flip 1, under, put 1, put 2, back, round", "1001 1101 011 101", 5},
		{"0", "under, turn, round, back", "0", 0}, {"1", "round, round, round, back, back", "1", 2}, {"1", "put 0, put 0, flip 9, flip 1, back, back, back, back", "1", 6},
		{"0", "put 1, put 1, put 1, put 1, put 1, put 1, put 1, put 1, put 1, put 1, put 1, put 1", "0111 01111 011111 0111111 01111111 011111111 0111111111 01111111111 011111111111", 11},
		{"101101101101", "put 0, flip 12, round, under, under, under, under, round, round", "101101101101 11011011011 0110110110 101101101 11011011 01101100 10110100", 6},
	}
	for _, k := range known {
		checkRun(t, deskOf(k.desk), deedsOf(k.deeds), deskOf(k.want), k.done)
	}
}

func TestDeskRunGoesDeedByDeed(t *testing.T) {
	lists := deedLists()
	for _, d := range fewDesks() {
		for _, list := range lists {
			want, done := d, 0
			for _, a := range list {
				after, ok := deskDone(want, a)
				if ok {
					done++
				}
				want = after
			}
			checkRun(t, d, list, want, done)
		}
	}
}

func TestDeskRunIsADesk(t *testing.T) {
	lists := deedLists()
	for d := range everyDesk() {
		for _, list := range lists {
			if got, _ := impl.DeskRun(d, list); !impl.DeskOk(got) {
				t.Errorf("DeskRun(%v, %v) = %v, want a desk", d, list, got)
			}
		}
	}
}

func TestDeskRunInTwoParts(t *testing.T) {
	lists := deedLists()
	for _, d := range fewDesks()[:12] {
		for _, list := range lists {
			for cut := range len(list) + 1 {
				first, before := impl.DeskRun(d, list[:cut])
				second, behind := impl.DeskRun(first, list[cut:])
				checkRun(t, d, list, second, before+behind)
			}
		}
	}
}

func TestDeskRunDoesAllThatMayBe(t *testing.T) {
	turned := slices.Repeat([]impl.Deed{{Kind: impl.DkFlip}}, impl.MaxLines)
	checkRun(t, deskOf("0"), turned, deskOf("0 1 0 1 0 1 0 1 0"), impl.MaxLines)
	checkRun(t, deskOf("0"), turned[1:], deskOf("1 0 1 0 1 0 1 0 1"), impl.MaxLines-1)
	checkRun(t, deskOf("0"), slices.Repeat([]impl.Deed{{Kind: impl.DkTurn}}, impl.MaxLines), deskOf("0"), 0)
}

func TestDeskRunOthers(t *testing.T) {
	check := func(d impl.Desk, list []impl.Deed) {
		t.Helper()
		if got, n := impl.DeskRun(d, list); n != 0 || !noDesk(got) {
			t.Errorf("DeskRun(%v, %v) = %v, %d, want nothing and 0", d, list, got, n)
		}
	}
	lists := deedLists()[:12]
	for _, d := range otherDesks() {
		for _, list := range lists {
			check(d, list)
		}
	}
	for _, d := range append(fewDesks(), otherDesks()[:4]...) {
		for _, count := range []int{impl.MaxLines + 1, impl.MaxLines + 2, 2 * impl.MaxLines, 256, 1000} {
			check(d, picked(plainDeeds(), count, count))
			check(d, slices.Repeat(otherDeeds()[:1], count))
			check(d, slices.Repeat([]impl.Deed{{Kind: impl.DkFlip}}, count))
		}
	}
}

func TestDeskRunIsNewMemory(t *testing.T) {
	for _, list := range deedLists()[:24] {
		room := append(slices.Clone(list), plainDeeds()...)
		was, there := slices.Clone(room), room[:len(list)]
		checkNewDesks(t, "DeskRun", fewDesks(), func(d impl.Desk) impl.Desk {
			after, _ := impl.DeskRun(d, there)
			return after
		})
		checkLeavesDesks(t, "DeskRun", func(d impl.Desk) { impl.DeskRun(d, there) })
		if !slices.Equal(room, was) {
			t.Errorf("DeskRun wrote into the deeds %v", was)
		}
	}
}

// Promise 62: texts of deeds are read.

func TestDeedTextKnown(t *testing.T) {
	known := []struct {
		kind, n int
		want    string
	}{
		{impl.DkFlip, 0, "flip 0"}, {impl.DkFlip, 1, "flip 1"}, {impl.DkFlip, 9, "flip 9"}, {impl.DkFlip, 10, "flip 10"}, {impl.DkFlip, 99, "flip 99"}, {impl.DkPut, 0, "put 0"}, {impl.DkPut, 1, "put 1"}, {impl.DkPut, 5, "put 5"}, {impl.DkPut, 9, "put 9"},
		{impl.DkUnder, 0, "under"}, {impl.DkTurn, 0, "turn"}, {impl.DkRound, 0, "round"}, {impl.DkBack, 0, "back"},
		{impl.DkFlip, -1, ""}, {impl.DkFlip, 100, ""}, {impl.DkPut, -1, ""}, {impl.DkPut, 10, ""}, {impl.DkUnder, 1, ""}, {impl.DkTurn, 1, ""}, {impl.DkRound, 1, ""}, {impl.DkBack, 1, ""}, {impl.DkUnder, -1, ""}, {-1, 0, ""}, {6, 0, ""},
	}
	for _, k := range known {
		if got := impl.DeedText(impl.Deed{Kind: k.kind, N: k.n}); got != k.want {
			t.Errorf("DeedText(%d, %d) = %q, want %q", k.kind, k.n, got, k.want)
		}
	}
}

func TestDeedTextIsRead(t *testing.T) {
	for want, a := range toldDeeds() {
		text := impl.DeedText(a)
		if text != want {
			t.Errorf("DeedText(%v) = %q, want %q", a, text, want)
		}
		if got, ok := impl.ReadDeed(text); got != a || !ok {
			t.Errorf("ReadDeed(%q) = %v, %v, want %v, true", text, got, ok, a)
		}
	}
}

func TestDeedTextOthers(t *testing.T) {
	for _, a := range untoldDeeds() {
		if got := impl.DeedText(a); got != "" {
			t.Errorf("DeedText(%v) = %q, want none", a, got)
		}
	}
}

// Promise 63: read texts are canonical.

// checkUnread holds that a text is that of no deed.
func checkUnread(t *testing.T, text string) {
	t.Helper()
	if got, ok := impl.ReadDeed(text); ok || got != (impl.Deed{}) {
		t.Errorf("ReadDeed(%q) = %v, %v, want nothing and false", short(text), got, ok)
	}
}

func TestReadDeedIsCanonical(t *testing.T) {
	for text, want := range toldDeeds() {
		got, ok := impl.ReadDeed(text)
		if got != want || !ok || impl.DeedText(got) != text {
			t.Errorf("ReadDeed(%q) = %v, %v, want %v, true", text, got, ok, want)
		}
		checkUnread(t, text+" ")
		checkUnread(t, " "+text)
		checkUnread(t, text+"\n")
		if word, n, named := strings.Cut(text, " "); named {
			checkUnread(t, word+" 0"+n)
		} else {
			checkUnread(t, word+" 0")
		}
	}
}

func TestReadDeedKnownOthers(t *testing.T) {
	for _, text := range []string{
		"", "flip", "flip ", "flip  1", "flip 1 ", "flip 1 2", "flip 01", "flip 00", "flip +1", "flip -1", "flip -0", "flip 100", "flip 1000000000", "flip 4294967297", "flip 18446744073709551617", "flip 1\x00", "flip \xff1", "flip\n1", "flip 1\n", "Flip 1", "FLIP 1",
		"put", "put ", "put 10", "put 00", "put 01", "put -1", "put 1 1", "put  1", "Put 1", "under ", "under 0", " under", "Under", "turn 0", "turn ", "TURN", "round 0", "round\x00", "back 0", "back\n", "row", "ones", "cell 4 2", "what",
	} {
		checkUnread(t, text)
	}
}

func TestReadDeedOthers(t *testing.T) {
	for _, text := range append(everyStrangeLine(), goodQuestions()...) {
		checkUnread(t, text)
	}
}

func TestReadDeedAllShortTexts(t *testing.T) {
	told := toldDeeds()
	for n := range 2000 {
		for _, word := range []string{"flip ", "put ", "under ", "turn ", "round ", "back ", ""} {
			text := word + strconv.Itoa(n)
			if _, is := told[text]; !is {
				checkUnread(t, text)
			}
		}
	}
	for x := range 256 {
		for y := range 256 {
			text := string([]byte{'p', 'u', 't', byte(x), byte(y)})
			if _, is := told[text]; !is {
				checkUnread(t, text)
			}
		}
	}
}

// Promise 64: journals are read.

func TestJournalTextKnown(t *testing.T) {
	for _, k := range []struct {
		list []impl.Deed
		want string
	}{
		{nil, ""}, {[]impl.Deed{}, ""}, {[]impl.Deed{{Kind: impl.DkFlip}}, "flip 0\n"}, {[]impl.Deed{{Kind: impl.DkPut, N: 9}, {Kind: impl.DkFlip, N: 99}}, "put 9\nflip 99\n"},
		{[]impl.Deed{{Kind: impl.DkUnder}, {Kind: impl.DkTurn}, {Kind: impl.DkRound}, {Kind: impl.DkBack}, {Kind: impl.DkBack}}, "under\nturn\nround\nback\nback\n"},
	} {
		if got := impl.JournalText(k.list); got != k.want {
			t.Errorf("JournalText(%v) = %q, want %q", k.list, got, k.want)
		}
	}
}

func TestJournalTextIsRead(t *testing.T) {
	for want, list := range journals() {
		text := impl.JournalText(list)
		if text != want {
			t.Fatalf("JournalText(%v) = %q, want %q", list, text, want)
		}
		if got, n := impl.ReadJournal(text); !slices.Equal(got, list) || n != len(text) {
			t.Errorf("ReadJournal(%q) = %v, %d, want %v, %d", text, got, n, list, len(text))
		}
	}
}

func TestJournalTextOthers(t *testing.T) {
	for _, bad := range untoldDeeds() {
		for count := 1; count <= 9; count++ {
			for at := range count {
				list := picked(plainDeeds(), count, at)
				list[at] = bad
				if got := impl.JournalText(list); got != "" {
					t.Errorf("JournalText(%v) = %q, want none", list, got)
				}
			}
		}
	}
}

func TestJournalTextLeavesItsArgument(t *testing.T) {
	for _, list := range append(deedLists(), untoldDeeds(), slices.Concat(plainDeeds(), untoldDeeds())) {
		was := slices.Clone(list)
		impl.JournalText(list)
		if !slices.Equal(list, was) {
			t.Errorf("JournalText wrote into the deeds %v", was)
		}
	}
}

// Promise 56: wherever a journal is cut, a desk of before is found.

// checkJournal holds that deeds of so many bytes are read of a text.
func checkJournal(t *testing.T, text string, want []impl.Deed, length int) {
	t.Helper()
	got, n := impl.ReadJournal(text)
	if !slices.Equal(got, want) || n != length {
		t.Errorf("ReadJournal(%q) = %v, %d, want %v, %d", short(text), got, n, want, length)
	}
	if again := impl.JournalText(got); again != text[:length] {
		t.Errorf("ReadJournal(%q) = %v, whose text is %q", short(text), got, short(again))
	}
}

func TestReadJournalKnown(t *testing.T) {
	three := []impl.Deed{{Kind: impl.DkFlip, N: 3}, {Kind: impl.DkBack}, {Kind: impl.DkPut, N: 1}}
	for _, k := range []struct {
		text          string
		count, length int
	}{
		{"", 0, 0}, {"\n", 0, 0}, {"flip 3", 0, 0}, {"flip 3\n", 1, 7}, {"flip 3\nback", 1, 7}, {"flip 3\nback\n", 2, 12}, {"flip 3\nback\nput", 2, 12}, {"flip 3\nback\nput 1", 2, 12}, {"flip 3\nback\nput 1\n", 3, 18}, {"flip 3\nback\nput 1\n\n", 3, 18},
		{"flip 3\nback\nput 10\n", 2, 12}, {"flip 3\nback\nput 1 \n", 2, 12}, {"flip 3\n\nback\n", 1, 7}, {"\nflip 3\nback\n", 0, 0}, {" flip 3\nback\n", 0, 0}, {"flip 3 \nback\n", 0, 0}, {"flip 3\r\nback\n", 0, 0}, {"flip 3\nbacks\nput 1\n", 1, 7},
		{"flip 3\nback\x00\nput 1\n", 1, 7}, {"flip 3\nback\n\xff\nput 1\n", 2, 12}, {"flip 3\nback\nrow\n", 2, 12}, {"flip 3\nback\nput 1\x00", 2, 12}, {"flip 3\nback\nput 1\nunder 0\n", 3, 18}, {"\x00", 0, 0}, {"what\n", 0, 0}, {"ones\nflip 3\n", 0, 0},
	} {
		checkJournal(t, k.text, three[:k.count], k.length)
	}
}

func TestReadJournalCutAnywhere(t *testing.T) {
	for text, list := range journals() {
		for cut := range len(text) + 1 {
			if cut > 2000 {
				break
			}
			begun := text[:cut]
			checkJournal(t, begun, list[:strings.Count(begun, "\n")], strings.LastIndex(begun, "\n")+1)
		}
	}
}

func TestReadJournalUpToALineThatIsNone(t *testing.T) {
	deeds := []impl.Deed{{Kind: impl.DkFlip, N: 12}, {Kind: impl.DkUnder}, {Kind: impl.DkPut, N: 7}, {Kind: impl.DkRound}, {Kind: impl.DkBack}}
	told := toldDeeds()
	for _, line := range append(everyStrangeLine(), goodQuestions()...) {
		first, _, _ := strings.Cut(line, "\n")
		if _, is := told[first]; is {
			continue
		}
		for at := range len(deeds) + 1 {
			before := impl.JournalText(deeds[:at])
			checkJournal(t, before+line+"\n"+impl.JournalText(deeds[at:]), deeds[:at], len(before))
			checkJournal(t, before+line, deeds[:at], len(before))
		}
	}
}

func TestReadJournalSaidLineByLine(t *testing.T) {
	for text, list := range journals() {
		if len(list) > impl.MaxLines {
			continue
		}
		for _, d := range fewDesks() {
			want, _ := impl.DeskRun(d, list)
			lines := strings.Split(text, "\n")
			if got, answers := impl.DeskSay(d, lines[:len(lines)-1]); !alikeDesks(got, want) || len(answers) != len(list) {
				t.Errorf("DeskSay(%v, %q) = %v, %q, want %v", d, lines, got, answers, want)
			}
		}
	}
}

func TestReadJournalIsNewMemory(t *testing.T) {
	for text := range journals() {
		want, length := impl.ReadJournal(text)
		spoilt, _ := impl.ReadJournal(text)
		was := slices.Clone(want)
		spoilt = spoilt[:cap(spoilt)]
		for at := range spoilt {
			spoilt[at] = impl.Deed{Kind: -7, N: -7}
		}
		if got, n := impl.ReadJournal(text); !slices.Equal(want, was) || !slices.Equal(got, was) || n != length {
			t.Errorf("ReadJournal(%q): two results share memory", short(text))
		}
	}
}

// Promise 65: questions change nothing.

// checkLine holds that a desk is another one after a line, and the answer.
func checkLine(t *testing.T, d impl.Desk, line string, want impl.Desk, answer string) {
	t.Helper()
	if got, told := impl.DeskLine(d, line); !alikeDesks(got, want) || told != answer {
		t.Errorf("DeskLine(%v, %q) = %v, %q, want %v, %q", d, short(line), got, told, want, answer)
	}
}

func TestDeskLineOfRows(t *testing.T) {
	for _, k := range saidOfRows() {
		for _, d := range []impl.Desk{deskOf(k.row), deskOf("1 01 " + k.row)} {
			for _, asked := range []said{{"row", k.row}, {"ones", k.ones}, {"last", k.last}, {"end", k.end}, {"balanced", k.balanced}} {
				checkLine(t, d, asked.line, d, asked.answer)
			}
		}
	}
}

func TestDeskLineOfEveryRow(t *testing.T) {
	for row := range everySide() {
		d := impl.Desk{Now: row}
		for _, asked := range answersOf(row) {
			checkLine(t, d, asked.line, d, asked.answer)
		}
	}
}

func TestDeskLineOfNumbers(t *testing.T) {
	for _, d := range fewDesks() {
		for _, asked := range saidOfNumbers() {
			checkLine(t, d, asked.line, d, asked.answer)
		}
	}
}

func TestDeskLineAsksTheChapters(t *testing.T) {
	d := deskOf("1 01 1001")
	ask := func(word string, want int, numbers ...int) {
		t.Helper()
		line, answer := word, "none"
		for _, n := range numbers {
			line += " " + strconv.Itoa(n)
		}
		if want >= 0 {
			answer = strconv.Itoa(want)
		}
		checkLine(t, d, line, d, answer)
	}
	some := []int{0, 1, 2, 3, 5, 7, 10, 13, 16, 17, 30, 31, 49, 60, 61, 999, 123456789, 499999999, 500000000, 999999999}
	for _, x := range some {
		ask("shared", impl.SharedOf(x), x)
		ask("ways", impl.WaysOf(x), x)
		for _, y := range some {
			ask("cell", impl.CellOf(x, y), x, y)
			ask("kept", impl.LeftIn(x, y), x, y)
			for _, z := range some {
				ask("left", impl.LeftOf(x, y, z), x, y, z)
				ask("often", impl.TimesInCell(x, y, z), x, y, z)
				ask("carries", impl.CarriesOf(x, y, z), x, y, z)
			}
		}
	}
}

func TestDeskLineOfDeeds(t *testing.T) {
	for _, d := range fewDesks() {
		for line, a := range toldDeeds() {
			want, done := deskDone(d, a)
			answer := "not"
			if done {
				answer = "ok"
			}
			checkLine(t, d, line, want, answer)
		}
	}
	for _, k := range []struct{ desk, line, want, answer string }{
		{"1001", "flip 0", "1001 0001", "ok"}, {"1001", "flip 4", "1001", "not"}, {"1001", "flip 99", "1001", "not"}, {"1001", "flip 100", "1001", "what"}, {"1001", "put 1", "1001 10011", "ok"}, {"1001", "put 2", "1001", "not"},
		{"1001", "put 9", "1001", "not"}, {"1001", "put 10", "1001", "what"}, {"1001", "under", "1001 101", "ok"}, {"1001", "under 0", "1001", "what"}, {"1", "under", "1", "not"}, {"1001", "turn", "1001 1110", "ok"}, {"1101", "turn", "1101", "not"},
		{"1001", "round", "1001 1010", "ok"}, {"100110010", "round", "100110010", "not"}, {"1 1001", "back", "1", "ok"}, {"1001", "back", "1001", "not"}, {"101101101101", "put 0", "101101101101", "not"},
	} {
		checkLine(t, deskOf(k.desk), k.line, deskOf(k.want), k.answer)
	}
}

func TestDeskLineOfOtherLines(t *testing.T) {
	for _, d := range []impl.Desk{deskOf("0"), deskOf("1 01 1001"), {Now: make([]int, impl.MaxSide), Past: pastOf(impl.MaxPast, 0)}} {
		for _, line := range everyStrangeLine() {
			checkLine(t, d, line, d, "what")
		}
	}
	for d := range everyDesk() {
		checkLine(t, d, "", d, "what")
	}
}

func TestDeskLineIsADesk(t *testing.T) {
	lines := slices.Concat(goodDeeds(), goodQuestions(), strangeLines()[:60])
	for d := range everyDesk() {
		for _, line := range lines {
			got, answer := impl.DeskLine(d, line)
			if !impl.DeskOk(got) || answer == "" {
				t.Errorf("DeskLine(%v, %q) = %v, %q, want a desk and an answer", d, short(line), got, answer)
			}
			if answer != "ok" && !alikeDesks(got, d) {
				t.Errorf("DeskLine(%v, %q) = %v, %q, want the desk before", d, short(line), got, answer)
			}
		}
	}
}

func TestDeskLineOthers(t *testing.T) {
	lines := slices.Concat(goodDeeds(), goodQuestions(), strangeLines()[:10])
	for _, d := range otherDesks() {
		for _, line := range lines {
			if got, answer := impl.DeskLine(d, line); answer != "" || !noDesk(got) {
				t.Errorf("DeskLine(%v, %q) = %v, %q, want nothing", d, line, got, answer)
			}
		}
	}
}

func TestDeskLineIsNewMemory(t *testing.T) {
	for _, line := range slices.Concat(goodDeeds(), goodQuestions(), strangeLines()[:6]) {
		checkNewDesks(t, "DeskLine", fewDesks(), func(d impl.Desk) impl.Desk {
			after, _ := impl.DeskLine(d, line)
			return after
		})
		checkLeavesDesks(t, "DeskLine", func(d impl.Desk) { impl.DeskLine(d, line) })
	}
	for _, line := range append(strangeLines()[:60], goodQuestions()...) {
		// Texts that are written out alike may stand in the same memory: so the line is given in memory of its own.
		line = strings.Clone(line)
		if _, answer := impl.DeskLine(deskOf("1001"), line); shareMemory(line, answer) {
			t.Errorf("DeskLine(1001, %q) = %q, in the line's memory", short(line), answer)
		}
	}
}

// Promise 57: whatever is said, three turns are none.

// checkSay holds that a desk is another one after lines, and the answers.
func checkSay(t *testing.T, d impl.Desk, lines []string, want impl.Desk, answers []string) {
	t.Helper()
	if got, told := impl.DeskSay(d, lines); !alikeDesks(got, want) || !slices.Equal(told, answers) {
		t.Errorf("DeskSay(%v, %q) = %v, %q, want %v, %q", d, lines, got, told, want, answers)
	}
}

// checkTalk holds that lines have their answers, one after the other, and lead to a desk.
func checkTalk(t *testing.T, desk string, talk []said, want string) {
	t.Helper()
	var lines, answers []string
	for _, each := range talk {
		lines, answers = append(lines, each.line), append(answers, each.answer)
	}
	checkSay(t, deskOf(desk), lines, deskOf(want), answers)
}

func TestDeskSayExamples(t *testing.T) {
	checkTalk(t, "1001", []said{
		{"ones", "6"}, {"last", "0"}, {"turn", "ok"}, {"row", "1110"}, {"under", "ok"}, {"row", "001"}, {"balanced", "yes"}, {"cell 10 5", "252"}, {"left 13 5 2", "1"}, {"often 8 3 2", "3"},
		{"carries 95 5 10", "2"}, {"kept 13 2", "8"}, {"shared 49", "7"},
	}, "1001 1110 001")
}

func TestDeskSayKnown(t *testing.T) {
	checkTalk(t, "1001", nil, "1001")
	checkTalk(t, "1 01", []said{{"", "what"}}, "1 01")
	checkTalk(t, "1001", []said{
		{"row", "1001"}, {"round", "ok"}, {"row", "1010"}, {"round", "ok"}, {"round", "ok"}, {"back", "ok"}, {"back", "ok"}, {"back", "ok"}, {"put 1", "ok"}, {"put 1", "ok"}, {"put 0", "ok"}, {"put 1", "ok"}, {"put 0", "ok"}, {"row", "100111010"},
		{"round", "not"}, {"ones", "26"}, {"turn", "ok"}, {"balanced", "no"}, {"under", "ok"}, {"row", "11010011"}, {"last", "1"}, {"flip 7", "ok"}, {"flip 6", "ok"}, {"flip 0", "ok"}, {"row", "01010000"}, {"put 0", "ok"}, {"end", "none"}, {"round", "not"},
		{"row", "010100000"}, {"end", "none"}, {"back", "ok"}, {"back", "ok"}, {"back", "ok"}, {"back", "ok"}, {"back", "ok"}, {"back", "ok"}, {"back", "ok"}, {"back", "ok"}, {"back", "not"}, {"row", "1001110"},
	}, "1001110")
}

func TestDeskSayGoesLineByLine(t *testing.T) {
	lists := lineLists()
	for _, d := range fewDesks() {
		for _, lines := range lists {
			want, answers := d, []string{}
			for _, line := range lines {
				after, answer := impl.DeskLine(want, line)
				want, answers = after, append(answers, answer)
			}
			checkSay(t, d, lines, want, answers)
			if slices.Contains(answers, "") {
				t.Errorf("DeskSay(%v, %q) has an empty answer", d, lines)
			}
		}
	}
}

func TestDeskSayInTwoParts(t *testing.T) {
	lists := lineLists()
	for _, d := range fewDesks()[:12] {
		for _, lines := range lists {
			for cut := range len(lines) + 1 {
				first, before := impl.DeskSay(d, lines[:cut])
				second, behind := impl.DeskSay(first, lines[cut:])
				checkSay(t, d, lines, second, append(before, behind...))
			}
		}
	}
}

func TestDeskSayThreeTurnsAreNone(t *testing.T) {
	for _, lines := range lineLists() {
		if len(lines) > impl.MaxLines-4 {
			continue
		}
		for _, d := range fewDesks() {
			before, _ := impl.DeskSay(d, lines)
			got, answers := impl.DeskSay(d, slices.Concat(lines, []string{"turn", "turn", "turn", "cell 4 2"}))
			if !slices.Equal(got.Now, before.Now) || len(answers) != len(lines)+4 || answers[len(lines)+3] != "6" {
				t.Errorf("DeskSay(%v, %q) and three turns lead to %v and %q, want %v and 6", d, lines, got, answers, before)
			}
		}
	}
}

func TestDeskSayOthers(t *testing.T) {
	check := func(d impl.Desk, lines []string) {
		t.Helper()
		if got, answers := impl.DeskSay(d, lines); len(answers) != 0 || !noDesk(got) {
			t.Errorf("DeskSay(%v, %q) = %v, %q, want nothing", d, lines, got, answers)
		}
	}
	lists := lineLists()[:9]
	for _, d := range otherDesks() {
		for _, lines := range lists {
			check(d, lines)
		}
	}
	for _, d := range append(fewDesks(), otherDesks()[:4]...) {
		for _, count := range []int{impl.MaxLines + 1, impl.MaxLines + 2, 2 * impl.MaxLines, 256, 1000} {
			check(d, slices.Repeat([]string{"row"}, count))
			check(d, slices.Repeat([]string{""}, count))
			check(d, picked(goodDeeds(), count, count))
		}
	}
}

func TestDeskSayIsNewMemory(t *testing.T) {
	for _, lines := range lineLists()[:20] {
		room := slices.Concat(lines, []string{"row", "turn"})
		was, there := slices.Clone(room), room[:len(lines)]
		checkNewDesks(t, "DeskSay", fewDesks(), func(d impl.Desk) impl.Desk {
			after, answers := impl.DeskSay(d, there)
			answers = answers[:cap(answers)]
			for at := range answers {
				answers[at] = "spoilt"
			}
			if _, others := impl.DeskSay(d, there); slices.Contains(others, "spoilt") {
				t.Errorf("DeskSay(%v, %q): two results share memory", d, lines)
			}
			return after
		})
		checkLeavesDesks(t, "DeskSay", func(d impl.Desk) { impl.DeskSay(d, there) })
		if !slices.Equal(room, was) {
			t.Errorf("DeskSay wrote into the lines %q", was)
		}
	}
}
