package tests

import (
	"math"
	"slices"
	"strings"
	"sync"
	"testing"

	"loop.example/g03003/impl"
)

var formNames = []string{"fine", "grid", "turn", "parts", "short", "alone"}

// plainLabels returns for each cell the least cell of its part; -1 for a black cell. It lets the lesser of two neighbours' labels win until no label changes.
func plainLabels(g impl.Grid) []int {
	labels := make([]int, len(g.Cells))
	for cell := range labels {
		labels[cell] = cell
		if g.Cells[cell] == '#' {
			labels[cell] = -1
		}
	}
	for changed := true; changed; {
		changed = false
		for cell := range labels {
			// A cell without a neighbour to the left, or above it, is compared with itself.
			for _, next := range []int{cell - min(1, cell%g.Cols), max(cell-g.Cols, cell%g.Cols)} {
				if labels[cell] >= 0 && labels[next] >= 0 && labels[cell] != labels[next] {
					labels[cell] = min(labels[cell], labels[next])
					labels[next] = labels[cell]
					changed = true
				}
			}
		}
	}
	return labels
}

// plainParts says what PartsOf should.
func plainParts(g impl.Grid) int {
	if !plainIsGrid(g) {
		return 0
	}
	count := 0
	for cell, label := range plainLabels(g) {
		if cell == label {
			count++
		}
	}
	return count
}

// plainLongest says what LongestSlot should.
func plainLongest(g impl.Grid) int {
	longest := 0
	for _, p := range plainSlots(g) {
		longest = max(longest, len(p.cells))
	}
	return longest
}

// plainSlotFaults returns whether a slot is too short, and whether a slot is checked too little or a white cell is in no slot.
func plainSlotFaults(g impl.Grid) (short, alone bool) {
	inSlots := map[int]bool{}
	placed := plainSlots(g)
	for i, p := range placed {
		count := len(p.cells)
		unchecked := plainUnchecked(g, placed, i)
		short = short || count == 2
		alone = alone || unchecked > count-unchecked
		for _, cell := range p.cells {
			inSlots[cell] = true
		}
	}
	return short, alone || len(inSlots) != strings.Count(g.Cells, ".")
}

// plainFaults returns the names of all faults that a grid has, in the order in which they count.
func plainFaults(g impl.Grid) string {
	if !plainIsGrid(g) {
		return "grid"
	}
	faults := []string{}
	if g != plainTurn(g) {
		faults = append(faults, "turn")
	}
	if plainParts(g) != 1 {
		faults = append(faults, "parts")
	}
	short, alone := plainSlotFaults(g)
	if short {
		faults = append(faults, "short")
	}
	if alone {
		faults = append(faults, "alone")
	}
	return strings.Join(faults, " ")
}

// formOfFaults returns the code of the first one of the faults; FmFine if there are none.
func formOfFaults(faults string) int {
	return max(0, slices.Index(formNames, strings.Split(faults, " ")[0]))
}

// checkForm checks what all functions of the chapter return of a grid.
func checkForm(t *testing.T, g impl.Grid, faults string, parts, longest int) {
	t.Helper()
	code := formOfFaults(faults)
	if got := impl.FormOf(g); got != code || impl.FormName(got) != formNames[code] {
		t.Errorf("FormOf(%v) is %d, %s, not %d; its faults are %s", short(g), got, impl.FormName(got), code, faults)
	}
	if got := impl.PartsOf(g); got != parts {
		t.Errorf("PartsOf(%v) is %d, not %d", short(g), got, parts)
	}
	if got := impl.IsConnected(g); got != (parts == 1) {
		t.Errorf("IsConnected(%v) is %t, and it has %d parts", short(g), got, parts)
	}
	if got := impl.LongestSlot(g); got != longest {
		t.Errorf("LongestSlot(%v) is %d, not %d", short(g), got, longest)
	}
}

// checkPlainForm checks that the functions return of a grid what the plain ones do.
func checkPlainForm(t *testing.T, g impl.Grid) {
	t.Helper()
	checkForm(t, g, plainFaults(g), plainParts(g), plainLongest(g))
}

// symmetricGrids returns every step-th one of the grids of this size that are their own half turns.
func symmetricGrids(rows, cols, step int) []impl.Grid {
	var all []impl.Grid
	count := rows * cols
	half := (count + 1) / 2
	for number := 0; number < 1<<half; number += step {
		cells := make([]byte, count)
		for i := range half {
			cells[i] = "#."[number>>i&1]
			cells[count-1-i] = cells[i]
		}
		all = append(all, gridOf(rows, cols, string(cells)))
	}
	return all
}

// manySymmetricGrids returns grids that are their own half turns: all of those with up to 25 cells, and some of those with more.
func manySymmetricGrids() []impl.Grid {
	var all []impl.Grid
	for _, side := range sides() {
		step := 1
		switch side[0] * side[1] {
		case 30:
			step = 5
		case 36:
			step = 23
		}
		all = append(all, symmetricGrids(side[0], side[1], step)...)
	}
	return all
}

// fineGrids returns those of manySymmetricGrids that are of the right form. They are the same for all tests, none of which changes them.
var fineGrids = sync.OnceValue(func() []impl.Grid {
	return slices.DeleteFunc(manySymmetricGrids(), func(g impl.Grid) bool { return plainFaults(g) != "" })
})

// turnedOver returns the grid with its rows as columns.
func turnedOver(g impl.Grid) impl.Grid {
	cells := ""
	for column := range g.Cols {
		for row := range g.Rows {
			cells += string(signAt(g, row, column))
		}
	}
	return gridOf(g.Cols, g.Rows, cells)
}

// mirrored returns the grid with its rows in reverse order.
func mirrored(g impl.Grid) impl.Grid {
	rows := strings.Split(plainText(g), "/")
	slices.Reverse(rows)
	return gridOf(g.Rows, g.Cols, strings.Join(rows, ""))
}

func withOtherSign(g impl.Grid, cell int) impl.Grid {
	cells := []byte(g.Cells)
	cells[cell] ^= '#' ^ '.'
	return gridOf(g.Rows, g.Cols, string(cells))
}

var formCases = []struct {
	text, faults   string
	parts, longest int
}{
	// Grids of the right form: with all cells checked, with less, with just half of a slot not checked.
	{".../.../...", "", 1, 3},
	{"..../..../....", "", 1, 4},
	{".../.../.../...", "", 1, 4},
	{"....../....../....../....../....../......", "", 1, 6},
	{".../.#./...", "", 1, 3},
	{".../.#./.#./...", "", 1, 4},
	{"..../.##./....", "", 1, 4},
	{"....#/#...#/#....", "", 1, 4},
	{"...../.#.#./.....", "", 1, 5},
	{"...../.#.#./...../.#.#./.....", "", 1, 5},
	{"##.../...../...../...../...##", "", 1, 5},
	{"....../#....#/......", "", 1, 6},
	{"....../.....#/....../#...../......", "", 1, 6},
	{"....../#...##/#....#/##...#/......", "", 1, 6},
	{"...#.#/....../....../#.#...", "", 1, 6},
	// Just one fault.
	{"..../..../..../...#", "turn", 1, 4},
	{"...#/.#.#/...#", "turn", 1, 3},
	{"...../.#.../...../...../.....", "turn", 1, 5},
	{"...###/...###/...###/###.../###.../###...", "parts", 2, 3},
	{"../..", "short", 1, 2},
	{"../../..", "short", 1, 3},
	{".../...", "short", 1, 3},
	{"#../..#", "short", 1, 2},
	{"..#/.../#..", "short", 1, 3},
	{"..../#..#/....", "short", 1, 4},
	// A slot with more than half of its cells not checked, though it be by just one cell.
	{"#.#/.../#.#", "alone", 1, 3},
	{".../#.#/...", "alone", 1, 3},
	{".#./.../.#.", "alone", 1, 3},
	{"###/.../###", "alone", 1, 3},
	{"#.#/#.#/#.#", "alone", 1, 3},
	{"...../.###./.....", "alone", 1, 5},
	{".../.#./.#./.#./...", "alone", 1, 5},
	{"....#/##.##/#....", "alone", 1, 4},
	{"....../.####./......", "alone", 1, 6},
	{"....../.####./.####./.####./.####./......", "alone", 1, 6},
	{"....../#.####/#....#/####.#/......", "alone", 1, 6},
	{"######/....../######/######/######/######", "turn alone", 1, 6},
	{"...../#####/.....", "parts alone", 2, 5},
	// A white cell in no slot: in the middle, at a corner, and beside others.
	{"###/#.#/###", "alone", 1, 0},
	{"#####/##.##/#####", "alone", 1, 0},
	{"###/###/#.#/###/###", "alone", 1, 0},
	{"#####/#####/##.##/#####/#####", "alone", 1, 0},
	{".##/###/###", "turn alone", 1, 0},
	{"##/#.", "turn alone", 1, 0},
	{".#/#.", "parts alone", 2, 0},
	{".####/#####/#####/#####/####.", "parts alone", 2, 0},
	{".#.../#..../...../....#/...#.", "parts alone", 3, 5},
	{"...../.###./.#.#./.###./.....", "parts alone", 2, 5},
	// No white cell, and no slot.
	{"##/##", "parts", 0, 0},
	{"###/###/###", "parts", 0, 0},
	{"#####/#####/#####/#####/#####/#####", "parts", 0, 0},
	{"#.#/.#./#.#", "parts alone", 4, 0},
	{".#./#.#/.#.", "parts alone", 5, 0},
	// Slots of two cells, across alone and down alone.
	{"##/../##", "short alone", 1, 2},
	{"#.#/#.#", "short alone", 1, 2},
	{"####/#..#/####", "short alone", 1, 2},
	{"###/#.#/#.#/###", "short alone", 1, 2},
	{"#...#/..#../#...#", "short", 1, 3},
	{"#...#/..#../..#../#...#", "short", 1, 4},
	{"###../...../...#./.#.../...../..###", "short", 1, 5},
	// Two faults and more, of which the first one counts.
	{"...###/.#.###/...###/###.../###.../###...", "turn parts", 2, 3},
	{"..../..#./....", "turn short", 1, 4},
	{"../.#", "turn short", 1, 2},
	{"../##", "turn short alone", 1, 2},
	{"##/#./#.", "turn short alone", 1, 2},
	{".#./#.#", "turn parts alone", 3, 0},
	{".##../..#.#", "turn parts short", 2, 2},
	{".#./.##", "turn parts short alone", 2, 2},
	{"...#/#.../#.../.#..", "turn parts short alone", 2, 4},
	{"..#.#/#.#..", "parts short", 2, 2},
	{"..../#..#/..##/##../#..#/....", "parts short", 2, 4},
	{".../###/...", "parts alone", 2, 3},
	{".#./.#./.#.", "parts alone", 2, 3},
	{"..##/##..", "parts short alone", 2, 2},
	{".#.#./##.##/.#.#.", "parts alone", 5, 3},
	{"...##/##...", "short alone", 1, 3},
	// Parts that touch at a corner alone, or end where the next row begins.
	{".../.##/##./...", "parts short alone", 2, 3},
	{"##./.##", "parts alone", 2, 0},
	{"##../..##", "parts short alone", 2, 2},
	{"###.../...###", "parts alone", 2, 3},
	{".####./######/.####./######/.####./######", "turn parts alone", 6, 0},
	// Parts that meet only at the last cell, and at the first one.
	{"##./##./...", "turn alone", 1, 3},
	{"##./##./..#", "turn parts short alone", 2, 2},
	{".../.##/.##", "turn alone", 1, 3},
	{"#../.##/.##", "turn parts short alone", 2, 2},
	{"....../.####./....#./####../#...../......", "turn short alone", 1, 6},
	{"#####./#####./#####./#####./#####./......", "turn alone", 1, 6},
	{"#####./#####./#####./#####./#####./.....#", "turn parts alone", 2, 5},
	// A part that winds through the grid.
	{".#.../.#.#./...#.", "alone", 1, 3},
	{"....../#####./....../.#####/......", "alone", 1, 6},
	{"....../#####./....#./.####./....../######", "turn alone", 1, 6},
	{".#...#/.#.#.#/.#.#.#/.#.#.#/.#.#.#/...#..", "turn short alone", 1, 6},
}

func TestFormOfCases(t *testing.T) {
	for _, c := range formCases {
		g, valid := plainParse(c.text)
		if !valid {
			t.Fatalf("%s is no grid", c.text)
		}
		checkForm(t, g, c.faults, c.parts, c.longest)
		if faults, parts, longest := plainFaults(g), plainParts(g), plainLongest(g); faults != c.faults || parts != c.parts || longest != c.longest {
			t.Errorf("%s should have the faults %q, %d parts and a slot of %d cells, not %q, %d and %d", c.text, faults, parts, longest, c.faults, c.parts, c.longest)
		}
	}
}

func TestFormCodes(t *testing.T) {
	codes := []int{impl.FmFine, impl.FmGrid, impl.FmTurn, impl.FmParts, impl.FmShort, impl.FmAlone}
	for i, code := range codes {
		if code != i {
			t.Errorf("the code of %s is %d", formNames[i], code)
		}
		if got := impl.FormName(code); got != formNames[i] {
			t.Errorf("FormName(%d) is %q", code, got)
		}
	}
	for _, code := range []int{math.MinInt, math.MinInt + 1, math.MinInt + 5, -1 << 32, -256, -6, -5, -2, -1, 6, 7, 8, 64, 255, 256, 257, 261, 1 << 32, 1<<32 + 3, 1 << 62, math.MaxInt - 1, math.MaxInt} {
		if got := impl.FormName(code); got != "" {
			t.Errorf("FormName(%d) is %q", code, got)
		}
	}
}

func TestFormOfSymmetricGrids(t *testing.T) {
	counts := map[int]int{}
	for _, g := range manySymmetricGrids() {
		checkPlainForm(t, g)
		counts[impl.FormOf(g)]++
	}
	for _, code := range []int{impl.FmFine, impl.FmParts, impl.FmShort, impl.FmAlone} {
		if counts[code] < 100 {
			t.Errorf("%d grids get the code %d", counts[code], code)
		}
	}
	if counts[impl.FmGrid] != 0 || counts[impl.FmTurn] != 0 {
		t.Errorf("%d grids are not valid, and %d are not symmetric", counts[impl.FmGrid], counts[impl.FmTurn])
	}
}

func TestFormOfManyGrids(t *testing.T) {
	for _, g := range slices.Concat(slottedGrids(), gridsUpTo(12), randomGrids(5000, 101)) {
		checkPlainForm(t, g)
	}
}

func TestFormOfWrongGrids(t *testing.T) {
	for _, g := range wrongGrids() {
		checkForm(t, g, "grid", 0, 0)
	}
	// Each of them is of the right form, but for one number or one cell.
	for _, g := range []impl.Grid{gridOf(3, 3, "........."), gridOf(3, 4, ".....##....."), gridOf(6, 6, strings.Repeat(".", 36))} {
		checkForm(t, g, "", 1, max(g.Rows, g.Cols))
		for _, change := range edgeInts() {
			rows, cols := g, g
			rows.Rows, cols.Cols = g.Rows+change, g.Cols+change
			for _, changed := range []impl.Grid{rows, cols} {
				if changed != g {
					checkForm(t, changed, "grid", 0, 0)
				}
			}
		}
		for _, cells := range []string{"", g.Cells[1:], g.Cells + ".", g.Cells + "#", g.Cells + g.Cells, g.Cells[1:] + "x", "?" + g.Cells[1:], g.Cells[2:] + "é", plainText(g)} {
			checkForm(t, gridOf(g.Rows, g.Cols, cells), "grid", 0, 0)
		}
	}
}

// No grid with two rows, or with two columns, is of the right form.
func TestFormOfNarrowGrids(t *testing.T) {
	for long := 2; long <= 6; long++ {
		for _, g := range slices.Concat(symmetricGrids(2, long, 1), symmetricGrids(long, 2, 1)) {
			if got := impl.FormOf(g); got != impl.FmParts && got != impl.FmShort {
				t.Errorf("FormOf(%v) is %d", g, got)
			}
		}
	}
}

func TestFormOfOpenAndBlackGrids(t *testing.T) {
	for _, side := range sides() {
		count := side[0] * side[1]
		faults := ""
		if min(side[0], side[1]) < 3 {
			faults = "short"
		}
		checkForm(t, gridOf(side[0], side[1], strings.Repeat(".", count)), faults, 1, max(side[0], side[1]))
		checkForm(t, gridOf(side[0], side[1], strings.Repeat("#", count)), "parts", 0, 0)
		// One white cell is connected, but in no slot; it is symmetric just in the middle.
		for cell := range count {
			faults := "turn alone"
			if 2*cell == count-1 {
				faults = "alone"
			}
			black := strings.Repeat("#", count)
			checkForm(t, gridOf(side[0], side[1], black[:cell]+"."+black[cell+1:]), faults, 1, 0)
		}
	}
}

// Cells that touch at their corners alone are as many parts.
func TestPartsOfCheckedBoards(t *testing.T) {
	for _, side := range sides() {
		for first := range 2 {
			cells := ""
			for cell := range side[0] * side[1] {
				cells += string(".#"[(cell/side[1]+cell%side[1]+first)%2])
			}
			g := gridOf(side[0], side[1], cells)
			if got := impl.PartsOf(g); got != strings.Count(cells, ".") || impl.IsConnected(g) || impl.LongestSlot(g) != 0 {
				t.Errorf("PartsOf(%v) is %d, and LongestSlot is %d", g, got, impl.LongestSlot(g))
			}
		}
	}
}

// The end of a row is not beside the beginning of the next one.
func TestPartsDoNotGoOnFromRowToRow(t *testing.T) {
	for _, side := range sides() {
		rows, cols := side[0], side[1]
		for row := range rows - 1 {
			cells := []byte(strings.Repeat("#", rows*cols))
			cells[(row+1)*cols-1], cells[(row+1)*cols] = '.', '.'
			g := gridOf(rows, cols, string(cells))
			if got := impl.PartsOf(g); got != 2 || impl.IsConnected(g) {
				t.Errorf("PartsOf(%v) is %d", g, got)
			}
		}
	}
}

// White cells beside each other are one part, and all others are two.
func TestPartsOfTwoCells(t *testing.T) {
	for _, side := range sides() {
		rows, cols := side[0], side[1]
		for a := range rows * cols {
			for b := range a {
				cells := []byte(strings.Repeat("#", rows*cols))
				cells[a], cells[b] = '.', '.'
				g := gridOf(rows, cols, string(cells))
				parts, longest := 2, 0
				if a/cols == b/cols && a == b+1 || a == b+cols {
					parts, longest = 1, 2
				}
				if got := impl.PartsOf(g); got != parts || impl.IsConnected(g) != (parts == 1) || impl.LongestSlot(g) != longest {
					t.Errorf("PartsOf(%v) is %d, and LongestSlot is %d", g, got, impl.LongestSlot(g))
				}
			}
		}
	}
}

// A path falls in two parts where a cell of it becomes black, but not at its ends.
func TestPartsOfPaths(t *testing.T) {
	paths := []struct {
		text string
		ends []int
	}{
		{".#.../.#.#./...#.", []int{0, 14}},
		{"....../#####./....../.#####/......", []int{0, 29}},
		{"....../#####./....#./.####./....../######", []int{0, 15}},
		{".#...#/.#.#.#/.#.#.#/.#.#.#/.#.#.#/...#..", []int{0, 35}},
		{"..##/#..#/##../###.", []int{0, 15}},
		{"....../######", []int{0, 5}},
		{"#./#./#./#./#./#.", []int{1, 11}},
	}
	for _, path := range paths {
		g, valid := plainParse(path.text)
		if !valid || !impl.IsConnected(g) || impl.PartsOf(g) != 1 {
			t.Errorf("%s has %d parts", path.text, impl.PartsOf(g))
		}
		for cell := range len(g.Cells) {
			if g.Cells[cell] == '#' {
				continue
			}
			want := 2
			if slices.Contains(path.ends, cell) {
				want = 1
			}
			cut := withOtherSign(g, cell)
			if got := impl.PartsOf(cut); got != want || impl.IsConnected(cut) != (want == 1) {
				t.Errorf("PartsOf(%v) is %d, not %d", cut, got, want)
			}
		}
	}
}

// Promise 10: a grid of the right form is symmetric, connected and checked enough, and has slots that are long enough.
func TestGridsOfTheRightForm(t *testing.T) {
	found := 0
	for _, g := range slices.Concat(manySymmetricGrids(), gridsUpTo(12), randomGrids(3000, 102)) {
		if impl.FormOf(g) != impl.FmFine {
			continue
		}
		found++
		if !impl.IsGrid(g) || !impl.IsSymmetric(g) || !impl.IsConnected(g) || impl.PartsOf(g) != 1 || impl.LongestSlot(g) < 3 {
			t.Errorf("FormOf(%v) is %d", g, impl.FmFine)
		}
		for i, s := range impl.SlotsOf(g) {
			if unchecked := impl.UncheckedIn(g, i); s.Length < 3 || unchecked > s.Length-unchecked || len(impl.CrossedBy(g, i)) < s.Length-s.Length/2 {
				t.Errorf("%v is a slot of %v, with %d cells unchecked", s, g, unchecked)
			}
		}
		for cell := range len(g.Cells) {
			if impl.IsWhite(g, cell) != (len(impl.SlotsAt(g, cell)) > 0) {
				t.Errorf("cell %d of %v is in %v", cell, g, impl.SlotsAt(g, cell))
			}
		}
	}
	if found < 500 {
		t.Errorf("%d grids are of the right form", found)
	}
}

// From each white cell of a connected grid the steps lead to each other one, and in no other grid.
func TestIsConnectedGoesByTheSteps(t *testing.T) {
	for _, g := range slices.Concat(someGrids(), randomGrids(2000, 103)) {
		connected := strings.Contains(g.Cells, ".")
		for cell := range len(g.Cells) {
			connected = connected && (g.Cells[cell] == '#' || plainReached(g, cell) == strings.Count(g.Cells, "."))
		}
		if got := impl.IsConnected(g); got != connected {
			t.Errorf("IsConnected(%v) is %t", g, got)
		}
	}
}

// plainReached returns the number of white cells that steps from a cell reach, with that cell.
func plainReached(g impl.Grid, cell int) int {
	reached := []int{cell}
	for next := 0; next < len(reached); next++ {
		row, column := reached[next]/g.Cols, reached[next]%g.Cols
		for _, step := range [][2]int{{-1, 0}, {1, 0}, {0, -1}, {0, 1}} {
			r, c := row+step[0], column+step[1]
			if signAt(g, r, c) == '.' && !slices.Contains(reached, r*g.Cols+c) {
				reached = append(reached, r*g.Cols+c)
			}
		}
	}
	return len(reached)
}

// A grid keeps its form, its parts and its longest slot when it is turned, mirrored, or turned over.
func TestFormIsKept(t *testing.T) {
	for _, g := range slices.Concat(someGrids(), fineGrids(), randomGrids(3000, 104)) {
		form, parts, longest := impl.FormOf(g), impl.PartsOf(g), impl.LongestSlot(g)
		for _, other := range []impl.Grid{impl.TurnGrid(g), mirrored(g), turnedOver(g)} {
			if impl.FormOf(other) != form || impl.PartsOf(other) != parts || impl.LongestSlot(other) != longest || impl.IsConnected(other) != impl.IsConnected(g) {
				t.Errorf("of %v, the form, the parts and the longest slot are %d, %d and %d, and not those of %v", other, impl.FormOf(other), impl.PartsOf(other), impl.LongestSlot(other), g)
			}
		}
	}
	for _, g := range wrongGrids() {
		if impl.FormOf(impl.TurnGrid(g)) != impl.FormOf(g) {
			t.Errorf("the form of %v is not kept", short(g))
		}
	}
}

// A change of one cell of a grid of the right form makes it differ from its half turn, unless the cell is the middle one.
func TestFormOfGridsThatAreAlmostFine(t *testing.T) {
	for _, g := range fineGrids() {
		for cell := range len(g.Cells) {
			changed := withOtherSign(g, cell)
			last := len(g.Cells) - 1
			if 2*cell == last {
				checkPlainForm(t, changed)
				continue
			}
			if got := impl.FormOf(changed); got != impl.FmTurn {
				t.Errorf("FormOf(%v) is %d", changed, got)
			}
			if len(g.Cells) == 36 {
				checkPlainForm(t, withOtherSign(changed, last-cell))
			}
		}
	}
}

func TestFormsAreTheSameEachTime(t *testing.T) {
	grids := slices.Concat(gridsUpTo(8), gridsWithOneCell(), fineGrids(), wrongGrids()[:40])
	for i, g := range grids {
		before := g
		form, parts, longest, connected := impl.FormOf(g), impl.PartsOf(g), impl.LongestSlot(g), impl.IsConnected(g)
		other := grids[len(grids)-1-i]
		for range 3 {
			impl.FormName(impl.FormOf(other))
			impl.PartsOf(other)
			impl.LongestSlot(other)
			if impl.FormOf(g) != form || impl.PartsOf(g) != parts || impl.LongestSlot(g) != longest || impl.IsConnected(g) != connected {
				t.Errorf("what the functions return of %v changes", short(g))
			}
		}
		if g != before {
			t.Errorf("%v becomes %v", short(before), short(g))
		}
	}
}
