package tests

import (
	"fmt"
	"math"
	"slices"
	"strings"
	"testing"

	"loop.example/g03003/impl"
)

// plainCrossings says what CrossingsOf should: it looks for the cells of each slot in each later one.
func plainCrossings(g impl.Grid) []impl.Crossing {
	found := []impl.Crossing{}
	placed := plainSlots(g)
	for a := range placed {
		for b := a + 1; b < len(placed); b++ {
			for atA, cell := range placed[a].cells {
				if atB := slices.Index(placed[b].cells, cell); atB >= 0 {
					found = append(found, impl.Crossing{A: a, B: b, AtA: atA, AtB: atB, Cell: cell})
				}
			}
		}
	}
	slices.SortFunc(found, func(c, d impl.Crossing) int { return c.Cell - d.Cell })
	return found
}

// plainChecked says what IsChecked should: a cell is checked if it and its neighbours in the row and in the column are white.
func plainChecked(g impl.Grid, cell int) bool {
	if !plainIsGrid(g) || cell < 0 || cell >= len(g.Cells) {
		return false
	}
	row, column := cell/g.Cols, cell%g.Cols
	across := signAt(g, row, column-1) == '.' || signAt(g, row, column+1) == '.'
	down := signAt(g, row-1, column) == '.' || signAt(g, row+1, column) == '.'
	return signAt(g, row, column) == '.' && across && down
}

// plainUnchecked says what UncheckedIn should; the slots of the grid are given.
func plainUnchecked(g impl.Grid, placed []placedSlot, slot int) int {
	if slot < 0 || slot >= len(placed) {
		return -1
	}
	count := 0
	for _, cell := range placed[slot].cells {
		if !plainChecked(g, cell) {
			count++
		}
	}
	return count
}

// plainCrossed says what CrossedBy should; the slots of the grid are given.
func plainCrossed(placed []placedSlot, slot int) []int {
	crossed := []int{}
	for i, p := range placed {
		shares := func(cell int) bool { return slices.Contains(p.cells, cell) }
		if slot >= 0 && slot < len(placed) && i != slot && slices.ContainsFunc(placed[slot].cells, shares) {
			crossed = append(crossed, i)
		}
	}
	return crossed
}

// plainShare says what CheckedShare should.
func plainShare(g impl.Grid) [2]int {
	if !plainIsGrid(g) {
		return [2]int{}
	}
	share := [2]int{0, strings.Count(g.Cells, ".")}
	for cell := range len(g.Cells) {
		if plainChecked(g, cell) {
			share[0]++
		}
	}
	return share
}

// shownCrossings writes each crossing as A, "+", AtA, "=", B, "+", AtB, "@" and the cell.
func shownCrossings(crossings []impl.Crossing) string {
	shown := []string{}
	for _, c := range crossings {
		shown = append(shown, fmt.Sprintf("%d+%d=%d+%d@%d", c.A, c.AtA, c.B, c.AtB, c.Cell))
	}
	return strings.Join(shown, " ")
}

// shownUnchecked writes what UncheckedIn returns for each slot.
func shownUnchecked(g impl.Grid) string {
	counts := []int{}
	for slot := range impl.SlotsOf(g) {
		counts = append(counts, impl.UncheckedIn(g, slot))
	}
	return strings.Trim(fmt.Sprint(counts), "[]")
}

// shownCrossed writes what CrossedBy returns for each slot, after the slot and ":".
func shownCrossed(g impl.Grid) string {
	shown := []string{}
	for slot := range impl.SlotsOf(g) {
		crossed := strings.Fields(strings.Trim(fmt.Sprint(impl.CrossedBy(g, slot)), "[]"))
		shown = append(shown, fmt.Sprintf("%d:%s", slot, strings.Join(crossed, ",")))
	}
	return strings.Join(shown, " ")
}

// shownShare writes what CheckedShare returns, separated by "/".
func shownShare(g impl.Grid) string {
	checked, white := impl.CheckedShare(g)
	return fmt.Sprintf("%d/%d", checked, white)
}

var crossCases = []struct{ text, crossings, unchecked, crossed, share string }{
	// The smallest grids: no slot, one slot, one crossing, one at each corner.
	{"##/##", "", "", "", "0/0"},
	{"#./##", "", "", "", "0/1"},
	{"#./.#", "", "", "", "0/2"},
	{"../##", "", "2", "0:", "0/2"},
	{"##/..", "", "2", "0:", "0/2"},
	{".#/.#", "", "2", "0:", "0/2"},
	{"#./#.", "", "2", "0:", "0/2"},
	{"../.#", "0+0=1+0@0", "1 1", "0:1 1:0", "1/3"},
	{"../#.", "0+1=1+0@1", "1 1", "0:1 1:0", "1/3"},
	{".#/..", "0+1=1+0@2", "1 1", "0:1 1:0", "1/3"},
	{"#./..", "0+1=1+1@3", "1 1", "0:1 1:0", "1/3"},
	{"../..", "0+0=1+0@0 0+1=2+0@1 1+1=3+0@2 2+1=3+1@3", "0 0 0 0", "0:1,2 1:0,3 2:0,3 3:1,2", "4/4"},
	// One crossing, at one corner of a greater grid.
	{"..#/.##/###", "0+0=1+0@0", "1 1", "0:1 1:0", "1/3"},
	{"#../##./###", "0+1=1+0@2", "1 1", "0:1 1:0", "1/3"},
	{"###/.##/..#", "0+1=1+0@6", "1 1", "0:1 1:0", "1/3"},
	{"###/##./#..", "0+1=1+1@8", "1 1", "0:1 1:0", "1/3"},
	// Two slots that meet at their first, middle and last cells, at the edge of the grid and inside.
	{"#.#/.../#.#", "0+1=1+1@4", "2 2", "0:1 1:0", "1/5"},
	{".../#.#/#.#", "0+1=1+0@1", "2 2", "0:1 1:0", "1/5"},
	{"#.#/#.#/...", "0+2=1+1@7", "2 2", "0:1 1:0", "1/5"},
	{".##/.../.##", "0+1=1+0@3", "2 2", "0:1 1:0", "1/5"},
	{"##./.../##.", "0+1=1+2@5", "2 2", "0:1 1:0", "1/5"},
	{".../.##/.##", "0+0=1+0@0", "2 2", "0:1 1:0", "1/5"},
	{".../##./##.", "0+2=1+0@2", "2 2", "0:1 1:0", "1/5"},
	{".##/.##/...", "0+2=1+0@6", "2 2", "0:1 1:0", "1/5"},
	{"##./##./...", "0+2=1+2@8", "2 2", "0:1 1:0", "1/5"},
	{"#..##/..###/####.", "0+0=1+0@1 1+1=2+1@6", "1 0 1", "0:1 1:0,2 2:1", "2/5"},
	// Slots across alone, and slots down alone.
	{"..#../#####/.....", "", "2 2 5", "0: 1: 2:", "0/9"},
	{".#./.#./##./.#./.#.", "", "2 5 2", "0: 1: 2:", "0/9"},
	// A white cell in no slot, with others that are checked.
	{"..#/.##/##.", "0+0=1+0@0", "1 1", "0:1 1:0", "1/4"},
	// A slot with no crossing beside slots with one.
	{"..##/.###/#...", "0+0=1+0@0", "1 1 3", "0:1 1:0 2:", "1/6"},
	// As many crossings as cells, and less.
	{".../...", "0+0=1+0@0 0+1=2+0@1 0+2=3+0@2 1+1=4+0@3 2+1=4+1@4 3+1=4+2@5", "0 0 0 0 0", "0:1,2,3 1:0,4 2:0,4 3:0,4 4:1,2,3", "6/6"},
	{"../../..", "0+0=1+0@0 0+1=2+0@1 1+1=3+0@2 2+1=3+1@3 1+2=4+0@4 2+2=4+1@5", "0 0 0 0 0", "0:1,2 1:0,3,4 2:0,3,4 3:1,2 4:1,2", "6/6"},
	{".../.../...", "0+0=1+0@0 0+1=2+0@1 0+2=3+0@2 1+1=4+0@3 2+1=4+1@4 3+1=4+2@5 1+2=5+0@6 2+2=5+1@7 3+2=5+2@8", "0 0 0 0 0 0", "0:1,2,3 1:0,4,5 2:0,4,5 3:0,4,5 4:1,2,3 5:1,2,3", "9/9"},
	{".../.#./...", "0+0=1+0@0 0+2=2+0@2 1+2=3+0@6 2+2=3+2@8", "1 1 1 1", "0:1,2 1:0,3 2:0,3 3:1,2", "4/8"},
	{".../.#.", "0+0=1+0@0 0+2=2+0@2", "1 1 1", "0:1,2 1:0 2:0", "2/5"},
	{"....../.####./.####./.####./.####./......", "0+0=1+0@0 0+5=2+0@5 1+5=3+0@30 2+5=3+5@35", "4 4 4 4", "0:1,2 1:0,3 2:0,3 3:1,2", "4/20"},
	// The slots that a slot crosses from cell to cell are not in the order of the slots.
	{"##./##./.../.##", "1+0=2+0@6 0+2=1+2@8", "2 1 1", "0:1 1:0,2 2:1", "2/6"},
	{"#./../.#", "1+0=2+0@2 0+1=1+1@3", "1 0 1", "0:1 1:0,2 2:1", "2/4"},
	// Two slots in one row, two in one column.
	{"..#../.###./.###.", "0+0=1+0@0 2+1=3+0@4", "1 2 1 2", "0:1 1:0 2:3 3:2", "2/8"},
	{"..#/.##/###/.##/..#", "0+0=1+0@0 2+1=3+0@12", "1 1 1 1", "0:1 1:0 2:3 3:2", "2/6"},
}

func TestCrossingsOf(t *testing.T) {
	for _, c := range crossCases {
		g, valid := plainParse(c.text)
		if !valid {
			t.Fatalf("%s is no grid", c.text)
		}
		if got := shownCrossings(impl.CrossingsOf(g)); got != c.crossings {
			t.Errorf("the crossings of %s are %s, not %s", c.text, got, c.crossings)
		}
		if want := shownCrossings(plainCrossings(g)); want != c.crossings {
			t.Errorf("the crossings of %s should be %s, not %s", c.text, want, c.crossings)
		}
		if got := shownUnchecked(g); got != c.unchecked {
			t.Errorf("the unchecked cells of the slots of %s are %s, not %s", c.text, got, c.unchecked)
		}
		if got := shownCrossed(g); got != c.crossed {
			t.Errorf("the slots crossed in %s are %s, not %s", c.text, got, c.crossed)
		}
		if got := shownShare(g); got != c.share {
			t.Errorf("the share of %s is %s, not %s", c.text, got, c.share)
		}
	}
}

func TestCrossingsOfManyGrids(t *testing.T) {
	for _, g := range slices.Concat(slottedGrids(), gridsUpTo(12), randomGrids(3000, 91)) {
		if got, want := impl.CrossingsOf(g), plainCrossings(g); !slices.Equal(got, want) {
			t.Errorf("CrossingsOf(%v) is %v, not %v", g, got, want)
		}
	}
	for _, g := range wrongGrids() {
		if got := impl.CrossingsOf(g); len(got) != 0 {
			t.Errorf("CrossingsOf(%v) is %v", short(g), got)
		}
	}
}

// In a grid without a black cell, each cell is in a slot across and in one down.
func TestCrossingsOfOpenGrids(t *testing.T) {
	for _, side := range sides() {
		rows, cols := side[0], side[1]
		g := gridOf(rows, cols, strings.Repeat(".", rows*cols))
		crossings := impl.CrossingsOf(g)
		if len(crossings) != rows*cols {
			t.Fatalf("%d crossings of %v", len(crossings), g)
		}
		for cell, c := range crossings {
			// The slots are 1a, the columns, and then the other rows.
			row, column := cell/cols, cell%cols
			want := impl.Crossing{A: 0, B: 1 + column, AtA: column, AtB: 0, Cell: cell}
			if row > 0 {
				want = impl.Crossing{A: 1 + column, B: cols + row, AtA: row, AtB: column, Cell: cell}
			}
			if c != want {
				t.Errorf("crossing %d of %v is %v, not %v", cell, g, c, want)
			}
		}
	}
}

// atCorner returns the grid with three white cells: one at a corner, and its two neighbours.
func atCorner(rows, cols int, below, right bool) (g impl.Grid, corner int) {
	row, column, nextRow, nextColumn := 0, 0, 1, 1
	if below {
		row, nextRow = rows-1, rows-2
	}
	if right {
		column, nextColumn = cols-1, cols-2
	}
	cells := []byte(strings.Repeat("#", rows*cols))
	for _, cell := range []int{row*cols + column, row*cols + nextColumn, nextRow*cols + column} {
		cells[cell] = '.'
	}
	return gridOf(rows, cols, string(cells)), row*cols + column
}

func TestCrossingsAtTheCorners(t *testing.T) {
	place := map[bool]int{false: 0, true: 1}
	for _, side := range sides() {
		for _, below := range []bool{false, true} {
			for _, right := range []bool{false, true} {
				g, corner := atCorner(side[0], side[1], below, right)
				// The slot down begins first if it ends at the corner; the slot across is A otherwise.
				want := impl.Crossing{B: 1, AtA: place[right], AtB: place[below], Cell: corner}
				if below {
					want = impl.Crossing{B: 1, AtA: place[below], AtB: place[right], Cell: corner}
				}
				if got := impl.CrossingsOf(g); !slices.Equal(got, []impl.Crossing{want}) {
					t.Errorf("CrossingsOf(%v) is %v, not %v", g, got, want)
				}
				for cell := range len(g.Cells) {
					if got := impl.IsChecked(g, cell); got != (cell == corner) {
						t.Errorf("IsChecked(%v, %d) is %t", g, cell, got)
					}
				}
				if shownUnchecked(g) != "1 1" || shownCrossed(g) != "0:1 1:0" || shownShare(g) != "1/3" {
					t.Errorf("of %v, %s are unchecked, %s are crossed, %s is the share", g, shownUnchecked(g), shownCrossed(g), shownShare(g))
				}
			}
		}
	}
}

// sharedCells returns the cells that are in both lists, in the order of the first one.
func sharedCells(a, b []int) []int {
	shared := []int{}
	for _, cell := range a {
		if slices.Contains(b, cell) {
			shared = append(shared, cell)
		}
	}
	return shared
}

// Promise 9: two slots share a cell exactly if they cross there.
func TestSlotsShareACellJustWhereTheyCross(t *testing.T) {
	for _, g := range slices.Concat(slottedGrids(), randomGrids(500, 92)) {
		cells := [][]int{}
		for _, s := range impl.SlotsOf(g) {
			cells = append(cells, impl.CellsOf(g, s))
		}
		crossings := impl.CrossingsOf(g)
		for a := range cells {
			for b := a + 1; b < len(cells); b++ {
				crossed := []int{}
				for _, c := range crossings {
					if c.A == a && c.B == b {
						crossed = append(crossed, c.Cell)
					}
				}
				if shared := sharedCells(cells[a], cells[b]); !slices.Equal(crossed, shared) {
					t.Errorf("the slots %d and %d of %v cross at %v, not %v", a, b, g, crossed, shared)
				}
			}
		}
	}
}

// What a crossing says holds: its slots have the cell there, one goes across and the other down, and no crossing comes before it that should not.
func TestCrossingsNameTheirPlaces(t *testing.T) {
	downFirst, acrossFirst := 0, 0
	for _, g := range slices.Concat(slottedGrids(), gridsUpTo(12)) {
		slots := impl.SlotsOf(g)
		last := -1
		for _, c := range impl.CrossingsOf(g) {
			if c.A < 0 || c.A >= c.B || c.B >= len(slots) || c.Cell <= last {
				t.Fatalf("%v is a crossing of %v, after cell %d", c, g, last)
			}
			last = c.Cell
			a, b := slots[c.A], slots[c.B]
			if a.Down == b.Down || impl.CellsOf(g, a)[c.AtA] != c.Cell || impl.CellsOf(g, b)[c.AtB] != c.Cell {
				t.Errorf("%v is a crossing of %v", c, g)
			}
			if got := impl.SlotsAt(g, c.Cell); !slices.Equal(got, []int{c.A, c.B}) {
				t.Errorf("the slots at %d of %v are %v, not those of %v", c.Cell, g, got, c)
			}
			if a.Down {
				downFirst++
			} else {
				acrossFirst++
			}
		}
	}
	if downFirst == 0 || acrossFirst == 0 {
		t.Errorf("A goes down in %d crossings, and across in %d", downFirst, acrossFirst)
	}
}

func TestIsChecked(t *testing.T) {
	// The cell 0 is in two slots, 1 and 3 are in one, 8 is in none, and the others are black.
	g, _ := plainParse("..#/.##/##.")
	for _, cell := range append(edgeInts(), 8, 9, 10) {
		if got := impl.IsChecked(g, cell); got != (cell == 0) {
			t.Errorf("IsChecked(%v, %d) is %t", g, cell, got)
		}
	}
	// All cells are in two slots.
	for _, g := range []impl.Grid{gridOf(2, 2, "...."), gridOf(2, 3, "......"), gridOf(6, 6, strings.Repeat(".", 36))} {
		for _, cell := range append(edgeInts(), len(g.Cells)-1, len(g.Cells), len(g.Cells)+1) {
			if got := impl.IsChecked(g, cell); got != (cell >= 0 && cell < len(g.Cells)) {
				t.Errorf("IsChecked(%v, %d) is %t", g, cell, got)
			}
		}
	}
	for _, g := range slices.Concat(slottedGrids(), gridsUpTo(10)) {
		for cell := -1; cell <= len(g.Cells); cell++ {
			if got := impl.IsChecked(g, cell); got != plainChecked(g, cell) {
				t.Errorf("IsChecked(%v, %d) is %t", g, cell, got)
			}
		}
	}
}

func TestIsCheckedGoesByTheCrossings(t *testing.T) {
	for _, g := range slices.Concat(gridsUpTo(8), gridsWithOneCell(), randomGrids(200, 93)) {
		crossings := impl.CrossingsOf(g)
		for _, cell := range append(edgeInts(), len(g.Cells)-1, len(g.Cells), len(g.Cells)+1) {
			crossed := slices.ContainsFunc(crossings, func(c impl.Crossing) bool { return c.Cell == cell })
			if got := impl.IsChecked(g, cell); got != crossed || got != plainChecked(g, cell) {
				t.Errorf("IsChecked(%v, %d) is %t", g, cell, got)
			}
		}
	}
	for _, g := range wrongGrids() {
		for _, cell := range append(edgeInts(), len(g.Cells)-1, len(g.Cells)) {
			if impl.IsChecked(g, cell) {
				t.Errorf("IsChecked(%v, %d) is true", short(g), cell)
			}
		}
	}
}

// indicesAround returns the indices of slots, and integers that are none.
func indicesAround(slots int) []int {
	all := []int{math.MinInt, math.MinInt + 1, -1 << 32, -256, -36, -2, -1, slots, slots + 1, slots + 64, slots + 256, slots + 1<<32, 1 << 62, math.MaxInt - 1, math.MaxInt}
	for slot := range slots {
		all = append(all, slot, slot-slots-1, slot+256, slot+1<<32, slot+math.MinInt)
	}
	return all
}

func TestUncheckedIn(t *testing.T) {
	// All cells of the first slot are checked, two of four of slot 3, and none of the last slot.
	g, _ := plainParse(".../.../##./##./..#")
	for slot, want := range []int{0, 0, 0, 2, 0, 2, -1, -1} {
		if got := impl.UncheckedIn(g, slot); got != want {
			t.Errorf("UncheckedIn(%v, %d) is %d, not %d", g, slot, got, want)
		}
	}
	for _, g := range slices.Concat(slottedGrids(), gridsUpTo(8), randomGrids(300, 94)) {
		placed := plainSlots(g)
		for _, slot := range indicesAround(len(placed)) {
			if got, want := impl.UncheckedIn(g, slot), plainUnchecked(g, placed, slot); got != want {
				t.Errorf("UncheckedIn(%v, %d) is %d, not %d", g, slot, got, want)
			}
		}
	}
	for _, g := range wrongGrids() {
		for _, slot := range edgeInts() {
			if got := impl.UncheckedIn(g, slot); got != -1 {
				t.Errorf("UncheckedIn(%v, %d) is %d", short(g), slot, got)
			}
		}
	}
}

func TestCrossedBy(t *testing.T) {
	for _, g := range slices.Concat(slottedGrids(), gridsUpTo(8), randomGrids(300, 95)) {
		placed := plainSlots(g)
		for _, slot := range indicesAround(len(placed)) {
			if got, want := impl.CrossedBy(g, slot), plainCrossed(placed, slot); !slices.Equal(got, want) {
				t.Errorf("CrossedBy(%v, %d) is %v, not %v", g, slot, got, want)
			}
		}
	}
	for _, g := range wrongGrids() {
		for _, slot := range edgeInts() {
			if got := impl.CrossedBy(g, slot); len(got) != 0 {
				t.Errorf("CrossedBy(%v, %d) is %v", short(g), slot, got)
			}
		}
	}
}

// A slot crosses the slots that cross it, in ascending order and never itself, and as many as it has checked cells.
func TestCrossedByIsMutual(t *testing.T) {
	for _, g := range slices.Concat(slottedGrids(), gridsUpTo(10)) {
		slots := impl.SlotsOf(g)
		for i, s := range slots {
			crossed := impl.CrossedBy(g, i)
			if len(crossed) != s.Length-impl.UncheckedIn(g, i) {
				t.Errorf("slot %d of %v crosses %v, with %d cells unchecked", i, g, crossed, impl.UncheckedIn(g, i))
			}
			last := -1
			for _, other := range crossed {
				if other <= last || other == i || !slices.Contains(impl.CrossedBy(g, other), i) {
					t.Errorf("slot %d of %v crosses %v", i, g, crossed)
				}
				last = other
			}
		}
	}
}

func TestCheckedShare(t *testing.T) {
	for _, g := range slices.Concat(slottedGrids(), gridsUpTo(12), randomGrids(3000, 96), wrongGrids()) {
		checked, white := impl.CheckedShare(g)
		if want := plainShare(g); checked != want[0] || white != want[1] {
			t.Errorf("CheckedShare(%v) is %d and %d, not %v", short(g), checked, white, want)
		}
	}
	for _, side := range sides() {
		count := side[0] * side[1]
		open, black := gridOf(side[0], side[1], strings.Repeat(".", count)), gridOf(side[0], side[1], strings.Repeat("#", count))
		if checked, white := impl.CheckedShare(open); checked != count || white != count {
			t.Errorf("CheckedShare(%v) is %d and %d", open, checked, white)
		}
		if checked, white := impl.CheckedShare(black); checked != 0 || white != 0 {
			t.Errorf("CheckedShare(%v) is %d and %d", black, checked, white)
		}
	}
}

func overwriteCrossings(l []impl.Crossing) {
	l = l[:cap(l)]
	for i := range l {
		l[i] = impl.Crossing{A: -77, B: -77, AtA: -77, AtB: -77, Cell: -77}
	}
}

func TestCrossingsAreNewEachTime(t *testing.T) {
	for _, g := range slices.Concat(gridsUpTo(6), gridsWithOneCell(), randomGrids(300, 97), wrongGrids()[:40]) {
		before, want, placed := g, plainCrossings(g), plainSlots(g)
		first, second := impl.CrossingsOf(g), impl.CrossingsOf(g)
		overwriteCrossings(first)
		if !slices.Equal(second, want) || !slices.Equal(impl.CrossingsOf(g), want) {
			t.Errorf("a change of one result of CrossingsOf(%v) makes another one %v", short(g), second)
		}
		for slot := -1; slot <= len(placed); slot++ {
			want := plainCrossed(placed, slot)
			first, second := impl.CrossedBy(g, slot), impl.CrossedBy(g, slot)
			overwriteInts(first)
			if !slices.Equal(second, want) || !slices.Equal(impl.CrossedBy(g, slot), want) {
				t.Errorf("a change of one result of CrossedBy(%v, %d) makes another one %v", short(g), slot, second)
			}
		}
		if g != before || !slices.Equal(second, want) {
			t.Errorf("the crossings of %v become %v", short(before), second)
		}
	}
}

func TestCrossingsAreTheSameEachTime(t *testing.T) {
	grids := slices.Concat(gridsUpTo(6), gridsWithOneCell(), wrongGrids()[:40])
	for i, g := range grids {
		crossings, crossed, unchecked, share := impl.CrossingsOf(g), shownCrossed(g), shownUnchecked(g), shownShare(g)
		other := grids[len(grids)-1-i]
		for range 10 {
			impl.CrossingsOf(other)
			impl.CheckedShare(other)
			if !slices.Equal(impl.CrossingsOf(g), crossings) || shownCrossed(g) != crossed || shownUnchecked(g) != unchecked || shownShare(g) != share {
				t.Errorf("what the functions return of %v changes", short(g))
			}
		}
	}
}
