package tests

import (
	"cmp"
	"fmt"
	"math"
	"regexp"
	"slices"
	"strconv"
	"strings"
	"testing"

	"loop.example/g03003/impl"
)

// placedSlot is a slot with its cells.
type placedSlot struct {
	slot  impl.Slot
	cells []int
}

var whiteRun = regexp.MustCompile(`\.{2,}`)

// plainLine returns the slots of one line, without numbers; numbers are those of its cells.
func plainLine(signs string, numbers []int, down bool) []placedSlot {
	var found []placedSlot
	for _, span := range whiteRun.FindAllStringIndex(signs, -1) {
		cells := numbers[span[0]:span[1]]
		found = append(found, placedSlot{impl.Slot{Down: down, Cell: cells[0], Length: len(cells)}, cells})
	}
	return found
}

// plainSlots says what SlotsOf and CellsOf should.
func plainSlots(g impl.Grid) []placedSlot {
	if !plainIsGrid(g) {
		return nil
	}
	rows, rowCells := make([]string, g.Rows), make([][]int, g.Rows)
	columns, columnCells := make([]string, g.Cols), make([][]int, g.Cols)
	for cell := range len(g.Cells) {
		row, column := cell/g.Cols, cell%g.Cols
		rows[row] += g.Cells[cell : cell+1]
		rowCells[row] = append(rowCells[row], cell)
		columns[column] += g.Cells[cell : cell+1]
		columnCells[column] = append(columnCells[column], cell)
	}
	var found []placedSlot
	for i, signs := range rows {
		found = append(found, plainLine(signs, rowCells[i], false)...)
	}
	for i, signs := range columns {
		found = append(found, plainLine(signs, columnCells[i], true)...)
	}
	return plainNumbered(found)
}

// plainNumbered returns the slots in their order, with the numbers of their first cells.
func plainNumbered(found []placedSlot) []placedSlot {
	var firsts []int
	for _, p := range found {
		firsts = append(firsts, p.slot.Cell)
	}
	slices.Sort(firsts)
	firsts = slices.Compact(firsts)
	for i := range found {
		found[i].slot.Number = slices.Index(firsts, found[i].slot.Cell) + 1
	}
	slices.SortFunc(found, func(a, b placedSlot) int {
		return cmp.Or(cmp.Compare(a.slot.Number, b.slot.Number), strings.Compare(plainName(a.slot), plainName(b.slot)))
	})
	return found
}

// plainName says what SlotName should.
func plainName(s impl.Slot) string {
	return strconv.Itoa(s.Number) + map[bool]string{false: "a", true: "d"}[s.Down]
}

// slotsOnly returns the slots without their cells.
func slotsOnly(placed []placedSlot) []impl.Slot {
	slots := []impl.Slot{}
	for _, p := range placed {
		slots = append(slots, p.slot)
	}
	return slots
}

// plainNames returns the names of all slots, in order.
func plainNames(g impl.Grid) []string {
	names := []string{}
	for _, p := range plainSlots(g) {
		names = append(names, plainName(p.slot))
	}
	return names
}

// checkNamed checks that SlotNamed finds just the names of the slots, which are given.
func checkNamed(t *testing.T, g impl.Grid, names []string, name string) {
	t.Helper()
	if got, want := impl.SlotNamed(g, name), slices.Index(names, name); got != want {
		t.Errorf("SlotNamed(%v, %.40q) is %d, not %d", short(g), name, got, want)
	}
}

// plainAt says what SlotsAt should.
func plainAt(g impl.Grid, cell int) []int {
	found := []int{}
	for i, p := range plainSlots(g) {
		if slices.Contains(p.cells, cell) {
			found = append(found, i)
		}
	}
	return found
}

// shownSlots writes each slot as its name, "@", its first cell, "+" and its length.
func shownSlots(slots []impl.Slot) string {
	shown := []string{}
	for _, s := range slots {
		shown = append(shown, fmt.Sprintf("%s@%d+%d", plainName(s), s.Cell, s.Length))
	}
	return strings.Join(shown, " ")
}

// gridsWithOneLine returns grids of MaxSide by MaxSide cells with each pattern of one row or one column, and all the other cells black, or all white.
func gridsWithOneLine() []impl.Grid {
	var all []impl.Grid
	for _, other := range []string{"#", "."} {
		for at := range 6 {
			for number := range 1 << 6 {
				row, column := []byte(strings.Repeat(other, 36)), []byte(strings.Repeat(other, 36))
				for place := range 6 {
					sign := "#."[number>>place&1]
					row[6*at+place], column[6*place+at] = sign, sign
				}
				all = append(all, gridOf(6, 6, string(row)), gridOf(6, 6, string(column)))
			}
		}
	}
	return all
}

// slottedGrids are valid grids of many kinds.
func slottedGrids() []impl.Grid {
	return slices.Concat(someGrids(), gridsWithOneLine())
}

// edgeInts are integers at the limits and near them.
func edgeInts() []int {
	return []int{math.MinInt, math.MinInt + 1, -1 << 32, -256, -37, -36, -2, -1, 0, 1, 2, 3, 4, 5, 6, 7, 35, 36, 37, 64, 255, 256, 257, 1 << 32, 1<<32 + 1, 1 << 62, math.MaxInt - 1, math.MaxInt}
}

var slotCases = []struct{ text, want string }{
	// The smallest grids.
	{"../..", "1a@0+2 1d@0+2 2d@1+2 3a@2+2"},
	{"##/##", ""},
	{"#./.#", ""},
	{".#/#.", ""},
	{"#./##", ""},
	{"../##", "1a@0+2"},
	{"##/..", "1a@2+2"},
	{".#/.#", "1d@0+2"},
	{"#./#.", "1d@1+2"},
	{"#./..", "1d@1+2 2a@2+2"},
	{".#/..", "1d@0+2 2a@2+2"},
	{"../#.", "1a@0+2 2d@1+2"},
	{"../.#", "1a@0+2 1d@0+2"},
	// A row ends and the next one begins with a white cell.
	{"##./.##", ""},
	{"#../.##", "1a@1+2"},
	{"##./..#", "1a@3+2"},
	{"#../..#", "1a@1+2 1d@1+2 2a@3+2"},
	{"##.../...##/#####", "1a@2+3 1d@2+2 2a@5+3"},
	// A column ends and the next one begins with a white cell.
	{"#./#./.#/.#", "1d@1+2 2d@4+2"},
	{"#./##/.#", ""},
	// Parts of one cell are no slots.
	{".#.#.#/######", ""},
	{".#..#./######", "1a@2+2"},
	{"#.#/.#./#.#", ""},
	{".#/##/.#/##/.#/##", ""},
	{"..#./####", "1a@0+2"},
	{".#../####", "1a@2+2"},
	// Two slots in a row, two in a column.
	{"..#../#####", "1a@0+2 2a@3+2"},
	{"..#.../######", "1a@0+2 2a@3+3"},
	{"...#../######", "1a@0+3 2a@4+2"},
	{"..##../######", "1a@0+2 2a@4+2"},
	{".#/.#/##/.#/.#", "1d@0+2 2d@6+2"},
	{"#./#./##/#./#./#.", "1d@1+2 2d@7+3"},
	// A slot between two black cells, at the beginning and at the end.
	{"#..#/####", "1a@1+2"},
	{"#....#/######", "1a@1+4"},
	{"..##/####", "1a@0+2"},
	{"##../####", "1a@2+2"},
	{"##/#./#./##", "1d@3+2"},
	{"##/##/.#/.#", "1d@4+2"},
	// Slots of MaxSide cells.
	{"....../######", "1a@0+6"},
	{"######/......", "1a@6+6"},
	{".#/.#/.#/.#/.#/.#", "1d@0+6"},
	{"#./#./#./#./#./#.", "1d@1+6"},
	{"....../......", "1a@0+6 1d@0+2 2d@1+2 3d@2+2 4d@3+2 5d@4+2 6d@5+2 7a@6+6"},
	{"../../../../../..", "1a@0+2 1d@0+6 2d@1+6 3a@2+2 4a@4+2 5a@6+2 6a@8+2 7a@10+2"},
	{"....../....../....../....../....../......", "1a@0+6 1d@0+6 2d@1+6 3d@2+6 4d@3+6 5d@4+6 6d@5+6 7a@6+6 8a@12+6 9a@18+6 10a@24+6 11a@30+6"},
	{"######/######/######/######/######/######", ""},
	// First cells of a slot across, of one down, and of both, and the numbers that follow.
	{".../...", "1a@0+3 1d@0+2 2d@1+2 3d@2+2 4a@3+3"},
	{".../.#./...", "1a@0+3 1d@0+3 2d@2+3 3a@6+3"},
	{"..#/.../#..", "1a@0+2 1d@0+2 2d@1+3 3a@3+3 4d@5+2 5a@7+2"},
	{"#../.../..#", "1a@1+2 1d@1+3 2d@2+2 3a@3+3 3d@3+2 4a@6+2"},
	{"#..../.#.../..#../...#./....#", "1a@1+4 2d@2+2 3d@3+3 4d@4+4 5d@5+4 6a@7+3 7a@10+2 8d@11+3 9a@13+2 10a@15+3 11d@17+2 12a@20+4"},
}

func TestSlotsOf(t *testing.T) {
	for _, c := range slotCases {
		g, valid := plainParse(c.text)
		if !valid {
			t.Fatalf("%s is no grid", c.text)
		}
		if got := shownSlots(impl.SlotsOf(g)); got != c.want {
			t.Errorf("the slots of %s are %s, not %s", c.text, got, c.want)
		}
		if want := shownSlots(slotsOnly(plainSlots(g))); want != c.want {
			t.Errorf("the slots of %s should be %s, not %s", c.text, want, c.want)
		}
	}
	for _, g := range slices.Concat(slottedGrids(), gridsUpTo(12), randomGrids(5000, 81)) {
		want := slotsOnly(plainSlots(g))
		if got := impl.SlotsOf(g); !slices.Equal(got, want) {
			t.Errorf("SlotsOf(%v) is %v, not %v", g, got, want)
		}
	}
	for _, g := range wrongGrids() {
		if got := impl.SlotsOf(g); len(got) != 0 {
			t.Errorf("SlotsOf(%v) is %v", short(g), got)
		}
	}
}

// signAt returns the sign of a cell by its row and column; black beyond the sides.
func signAt(g impl.Grid, row, column int) byte {
	if row < 0 || column < 0 || row >= g.Rows || column >= g.Cols {
		return '#'
	}
	return g.Cells[row*g.Cols+column]
}

// Promise 8: a slot has white cells only, at least two of them, as many as can be, and is found by its name.
func TestSlotsHaveWhiteCellsOnly(t *testing.T) {
	for _, g := range slottedGrids() {
		for i, s := range impl.SlotsOf(g) {
			cells := impl.CellsOf(g, s)
			if len(cells) != s.Length || s.Length < 2 || cells[0] != s.Cell {
				t.Errorf("the cells of %v in %v are %v", s, g, cells)
			}
			down, right := 0, 1
			if s.Down {
				down, right = 1, 0
			}
			row, column := s.Cell/g.Cols, s.Cell%g.Cols
			for place, cell := range cells {
				if want := (row+place*down)*g.Cols + column + place*right; cell != want || signAt(g, cell/g.Cols, cell%g.Cols) != '.' || !impl.IsWhite(g, cell) {
					t.Errorf("cell %d of %v in %v is %d", place, s, g, cell)
				}
			}
			before := signAt(g, row-down, column-right)
			after := signAt(g, row+s.Length*down, column+s.Length*right)
			if before != '#' || after != '#' {
				t.Errorf("%v in %v can be longer", s, g)
			}
			if got := impl.SlotNamed(g, impl.SlotName(s)); got != i {
				t.Errorf("slot %d of %v is found at %d", i, g, got)
			}
		}
	}
}

// Two white cells beside each other are in one slot, and so is each white cell with a white one beside it.
func TestSlotsHaveAllNeighbours(t *testing.T) {
	together := func(g impl.Grid, a, b int, down bool) bool {
		return slices.ContainsFunc(impl.SlotsOf(g), func(s impl.Slot) bool {
			cells := impl.CellsOf(g, s)
			return s.Down == down && slices.Contains(cells, a) && slices.Contains(cells, b)
		})
	}
	for _, g := range slices.Concat(gridsUpTo(8), gridsWithOneLine()) {
		for cell := range len(g.Cells) {
			row, column := cell/g.Cols, cell%g.Cols
			white := signAt(g, row, column) == '.'
			if want := white && signAt(g, row, column+1) == '.'; together(g, cell, cell+1, false) != want {
				t.Errorf("that the cells %d and %d of %v are in a slot across is %t", cell, cell+1, g, !want)
			}
			if want := white && signAt(g, row+1, column) == '.'; together(g, cell, cell+g.Cols, true) != want {
				t.Errorf("that the cells %d and %d of %v are in a slot down is %t", cell, cell+g.Cols, g, !want)
			}
		}
	}
}

// The numbers go from 1 on, in the order of the first cells, and no two slots have the same number and direction.
func TestSlotsAreNumberedInOrder(t *testing.T) {
	for _, g := range slices.Concat(slottedGrids(), gridsUpTo(12)) {
		slots := impl.SlotsOf(g)
		for i, s := range slots {
			last := impl.Slot{Cell: -1}
			if i > 0 {
				last = slots[i-1]
			}
			next := s.Number == last.Number+1 && s.Cell > last.Cell
			both := s.Number == last.Number && s.Cell == last.Cell && s.Down && !last.Down
			if !next && !both {
				t.Errorf("slot %d of %v is %v, after %v", i, g, s, last)
			}
		}
	}
}

func TestCellsOf(t *testing.T) {
	g, _ := plainParse("..#/.../#..")
	cases := []struct {
		slot impl.Slot
		want []int
	}{
		{impl.Slot{Number: 1, Down: false, Cell: 0, Length: 2}, []int{0, 1}},
		{impl.Slot{Number: 1, Down: true, Cell: 0, Length: 2}, []int{0, 3}},
		{impl.Slot{Number: 2, Down: true, Cell: 1, Length: 3}, []int{1, 4, 7}},
		{impl.Slot{Number: 3, Down: false, Cell: 3, Length: 3}, []int{3, 4, 5}},
		{impl.Slot{Number: 4, Down: true, Cell: 5, Length: 2}, []int{5, 8}},
		{impl.Slot{Number: 5, Down: false, Cell: 7, Length: 2}, []int{7, 8}},
		{impl.Slot{}, nil},
		{impl.Slot{Length: 2}, nil},
		{impl.Slot{Number: 1, Length: 2, Cell: 1}, nil},
		{impl.Slot{Number: 1, Length: 1}, nil},
		{impl.Slot{Number: 1, Length: 3}, nil},
		{impl.Slot{Number: 2, Down: false, Cell: 1, Length: 3}, nil},
		{impl.Slot{Number: 2, Down: true, Cell: 1, Length: 2}, nil},
		{impl.Slot{Number: 3, Down: true, Cell: 1, Length: 3}, nil},
		{impl.Slot{Number: 0, Down: false, Cell: 0, Length: 2}, nil},
		{impl.Slot{Number: 4, Down: true, Cell: 4, Length: 2}, nil},
		{impl.Slot{Number: 6, Down: false, Cell: 9, Length: 2}, nil},
	}
	for _, c := range cases {
		if got := impl.CellsOf(g, c.slot); !slices.Equal(got, c.want) {
			t.Errorf("CellsOf %v is %v, not %v", c.slot, got, c.want)
		}
	}
	for _, g := range slices.Concat(slottedGrids(), gridsUpTo(12), randomGrids(2000, 82)) {
		for _, p := range plainSlots(g) {
			if got := impl.CellsOf(g, p.slot); !slices.Equal(got, p.cells) {
				t.Errorf("CellsOf(%v, %v) is %v, not %v", g, p.slot, got, p.cells)
			}
		}
	}
}

// slotsBesides returns slots that differ from s in one field.
func slotsBesides(s impl.Slot) []impl.Slot {
	turned := s
	turned.Down = !s.Down
	all := []impl.Slot{turned}
	for _, change := range edgeInts() {
		number, cell, length := s, s, s
		number.Number, cell.Cell, length.Length = change, change, change
		all = append(all, number, cell, length)
		number.Number, cell.Cell, length.Length = s.Number+change, s.Cell+change, s.Length+change
		all = append(all, number, cell, length)
	}
	return slices.DeleteFunc(all, func(other impl.Slot) bool { return other == s })
}

func TestCellsOfOtherSlots(t *testing.T) {
	for _, g := range slices.Concat(gridsUpTo(6), gridsWithOneCell(), randomGrids(200, 83)) {
		slots := slotsOnly(plainSlots(g))
		others := []impl.Slot{{}}
		for _, s := range slots {
			others = append(others, slotsBesides(s)...)
		}
		for _, s := range others {
			if got := impl.CellsOf(g, s); len(got) != 0 && !slices.Contains(slots, s) {
				t.Errorf("CellsOf(%v, %v) is %v", g, s, got)
			}
		}
	}
	limits := []int{math.MinInt, -1, 0, 1, 2, 6, 36, math.MaxInt}
	g := gridOf(6, 6, strings.Repeat(".", 36))
	slots := slotsOnly(plainSlots(g))
	for _, number := range limits {
		for _, cell := range limits {
			for _, length := range limits {
				for _, down := range []bool{false, true} {
					s := impl.Slot{Number: number, Down: down, Cell: cell, Length: length}
					if got := impl.CellsOf(g, s); (len(got) != 0) != slices.Contains(slots, s) {
						t.Errorf("CellsOf(%v, %v) is %v", g, s, got)
					}
				}
			}
		}
	}
}

// A slot of one grid is mostly none of another one.
func TestCellsOfSlotsOfAnotherGrid(t *testing.T) {
	grids := gridsUpTo(6)
	for _, g := range grids {
		placed := plainSlots(g)
		for _, other := range grids {
			for _, p := range placed {
				want := []int{}
				for _, q := range plainSlots(other) {
					if q.slot == p.slot {
						want = q.cells
					}
				}
				if got := impl.CellsOf(other, p.slot); !slices.Equal(got, want) {
					t.Errorf("CellsOf(%v, %v) is %v, not %v", other, p.slot, got, want)
				}
			}
		}
	}
}

func TestCellsOfWrongGrids(t *testing.T) {
	slots := []impl.Slot{{}, {Number: 1, Length: 2}, {Number: 1, Down: true, Length: 2}, {Number: 1, Length: 6}, {Number: 1, Down: true, Length: 6}, {Number: 3, Cell: 2, Length: 2}, {Number: 7, Cell: 6, Length: 6}, {Number: math.MaxInt, Cell: math.MaxInt, Length: math.MaxInt}, {Number: math.MinInt, Down: true, Cell: math.MinInt, Length: math.MinInt}}
	for _, g := range wrongGrids() {
		for _, s := range slots {
			if got := impl.CellsOf(g, s); len(got) != 0 {
				t.Errorf("CellsOf(%v, %v) is %v", short(g), s, got)
			}
		}
	}
}

func TestSlotName(t *testing.T) {
	cases := []struct {
		number int
		want   string
	}{
		{1, "1"}, {2, "2"}, {9, "9"}, {10, "10"}, {11, "11"}, {24, "24"}, {99, "99"}, {100, "100"}, {12345, "12345"},
		{impl.MaxValue, "1000000000000"}, {impl.MaxValue + 1, "1000000000001"},
		{0, "0"}, {-1, "-1"}, {-10, "-10"}, {-impl.MaxValue - 1, "-1000000000001"},
		{math.MaxInt, "9223372036854775807"}, {math.MinInt, "-9223372036854775808"}, {math.MinInt + 1, "-9223372036854775807"},
	}
	for _, c := range cases {
		// The name does not depend on the other fields.
		for _, cell := range []int{0, 7, -1, math.MinInt, math.MaxInt} {
			for _, length := range []int{0, 2, -1, math.MinInt, math.MaxInt} {
				if got := impl.SlotName(impl.Slot{Number: c.number, Cell: cell, Length: length}); got != c.want+"a" {
					t.Errorf("the name of %d across is %q", c.number, got)
				}
				if got := impl.SlotName(impl.Slot{Number: c.number, Down: true, Cell: cell, Length: length}); got != c.want+"d" {
					t.Errorf("the name of %d down is %q", c.number, got)
				}
			}
		}
	}
	if got := impl.SlotName(impl.Slot{}); got != "0a" {
		t.Errorf("the name of the zero slot is %q", got)
	}
}

func TestSlotNamed(t *testing.T) {
	g, _ := plainParse(".../.#./...")
	for i, name := range []string{"1a", "1d", "2d", "3a"} {
		if got := impl.SlotNamed(g, name); got != i {
			t.Errorf("SlotNamed(%v, %q) is %d", g, name, got)
		}
	}
	wrong := []string{"", "a", "d", "1", "2", "2a", "3d", "0a", "0d", "4a", "4d", "-1a", "+1a", "01a", "001d", "1A", "1D", " 1a", "1a ", "1 a", "1a\n", "\t1a", "1aa", "1ad", "1da", "a1", "d1", "a1a", "11a", "1a1", "1x", "1b", "1e", "1c", "1`", "1\x00", "1a\x00", "\x001a", "1.0a", "1e0a", "0x1a", "1_a", "1-a", "x", "?", "é", "1é", "１a", "١a", "1а", "1ａ", "1a,1d", "1across", "1down", "1 across", "9223372036854775807a", "-9223372036854775808d", "18446744073709551617a", "4294967297a", "257a"}
	for _, name := range wrong {
		if got := impl.SlotNamed(g, name); got != -1 {
			t.Errorf("SlotNamed(%v, %q) is %d", g, name, got)
		}
	}
	for _, unit := range []string{"1", "0", "a", "d", "1a", " ", "-", "\x00", "é"} {
		for _, count := range []int{20, 256, 1 << 16, 1 << 20} {
			for _, name := range []string{strings.Repeat(unit, count), strings.Repeat(unit, count) + "1a", "1a" + strings.Repeat(unit, count)} {
				if got := impl.SlotNamed(g, name); got != -1 {
					t.Errorf("SlotNamed(%v, %.20q) is %d", g, name, got)
				}
			}
		}
	}
}

// namesBesides returns strings that one byte less, more or other makes of a name.
func namesBesides(name string) []string {
	all := []string{name, strings.ToUpper(name), name + name, name[:len(name)-1], name[1:], name[:len(name)-1] + "a", name[:len(name)-1] + "d"}
	for _, more := range []string{"0", "1", "+", "-", " ", "a", "d", "\x00", "\n", "_", "00", "２"} {
		all = append(all, more+name, name+more, name[:len(name)-1]+more+name[len(name)-1:])
	}
	for place := range len(name) {
		for value := range 256 {
			all = append(all, name[:place]+string([]byte{byte(value)})+name[place+1:])
		}
	}
	return all
}

func TestSlotNamedOfAllGrids(t *testing.T) {
	for _, g := range slottedGrids() {
		names := plainNames(g)
		for number := -1; number <= 14; number++ {
			checkNamed(t, g, names, strconv.Itoa(number)+"a")
			checkNamed(t, g, names, strconv.Itoa(number)+"d")
		}
		checkNamed(t, g, names, "")
	}
	for _, g := range wrongGrids() {
		for _, name := range []string{"1a", "1d", "2a", "2d", "0a", "0d", ""} {
			checkNamed(t, g, nil, name)
		}
	}
}

func TestSlotNamedOfChangedNames(t *testing.T) {
	for _, text := range []string{"../..", "#./..", "..#/.../#..", "#..../.#.../..#../...#./....#", "....../....../....../....../....../......", "######/######"} {
		g, _ := plainParse(text)
		names := plainNames(g)
		tried := append(wordsOver("012ad A-", 4), "")
		for _, name := range names {
			tried = append(tried, namesBesides(name)...)
		}
		for _, name := range tried {
			checkNamed(t, g, names, name)
		}
	}
}

func TestSlotsAt(t *testing.T) {
	cases := []struct {
		text string
		want [][]int
	}{
		{"../..", [][]int{{0, 1}, {0, 2}, {1, 3}, {2, 3}}},
		{"#./.#", [][]int{{}, {}, {}, {}}},
		{"#./..", [][]int{{}, {0}, {1}, {0, 1}}},
		{"##./.##", [][]int{{}, {}, {}, {}, {}, {}}},
		{".../.#./...", [][]int{{0, 1}, {0}, {0, 2}, {1}, {}, {2}, {1, 3}, {3}, {2, 3}}},
		{"..#/.../#..", [][]int{{0, 1}, {0, 2}, {}, {1, 3}, {2, 3}, {3, 4}, {}, {2, 5}, {4, 5}}},
		{".#../####", [][]int{{}, {}, {0}, {0}, {}, {}, {}, {}}},
	}
	for _, c := range cases {
		g, _ := plainParse(c.text)
		for cell, want := range c.want {
			if got := impl.SlotsAt(g, cell); !slices.Equal(got, want) {
				t.Errorf("the slots at %d of %s are %v, not %v", cell, c.text, got, want)
			}
		}
	}
	for _, g := range slices.Concat(slottedGrids(), gridsUpTo(10)) {
		placed := plainSlots(g)
		for cell := -1; cell <= len(g.Cells); cell++ {
			want := []int{}
			for i, p := range placed {
				if slices.Contains(p.cells, cell) {
					want = append(want, i)
				}
			}
			if got := impl.SlotsAt(g, cell); !slices.Equal(got, want) {
				t.Errorf("SlotsAt(%v, %d) is %v, not %v", g, cell, got, want)
			}
		}
	}
}

func TestSlotsAtOtherCells(t *testing.T) {
	for _, g := range slices.Concat(gridsUpTo(6), gridsWithOneCell(), randomGrids(200, 84)) {
		for _, cell := range append(edgeInts(), len(g.Cells)-1, len(g.Cells), len(g.Cells)+1) {
			if got, want := impl.SlotsAt(g, cell), plainAt(g, cell); !slices.Equal(got, want) {
				t.Errorf("SlotsAt(%v, %d) is %v, not %v", g, cell, got, want)
			}
		}
	}
	for _, g := range wrongGrids() {
		for _, cell := range edgeInts() {
			if got := impl.SlotsAt(g, cell); len(got) != 0 {
				t.Errorf("SlotsAt(%v, %d) is %v", short(g), cell, got)
			}
		}
	}
}

// overwriteInts changes a slice of integers, and its spare capacity.
func overwriteInts(l []int) {
	l = l[:cap(l)]
	for i := range l {
		l[i] = -77
	}
}

func overwriteSlots(l []impl.Slot) {
	l = l[:cap(l)]
	for i := range l {
		l[i] = impl.Slot{Number: -77, Down: true, Cell: -77, Length: -77}
	}
}

func TestSlotsAreNewEachTime(t *testing.T) {
	for _, g := range slices.Concat(gridsUpTo(6), gridsWithOneCell(), randomGrids(300, 85), wrongGrids()[:40]) {
		before, placed := g, plainSlots(g)
		slots := slotsOnly(placed)
		first, second := impl.SlotsOf(g), impl.SlotsOf(g)
		overwriteSlots(first)
		if !slices.Equal(second, slots) || !slices.Equal(impl.SlotsOf(g), slots) {
			t.Errorf("a change of one result of SlotsOf(%v) makes another one %v", g, second)
		}
		for _, p := range append(placed, placedSlot{}) {
			first, second := impl.CellsOf(g, p.slot), impl.CellsOf(g, p.slot)
			overwriteInts(first)
			if !slices.Equal(second, p.cells) || !slices.Equal(impl.CellsOf(g, p.slot), p.cells) {
				t.Errorf("a change of one result of CellsOf(%v, %v) makes another one %v", g, p.slot, second)
			}
		}
		for cell := -1; cell <= len(g.Cells); cell++ {
			want := plainAt(g, cell)
			first, second := impl.SlotsAt(g, cell), impl.SlotsAt(g, cell)
			overwriteInts(first)
			if !slices.Equal(second, want) || !slices.Equal(impl.SlotsAt(g, cell), want) {
				t.Errorf("a change of one result of SlotsAt(%v, %d) makes another one %v", g, cell, second)
			}
		}
		if g != before || !slices.Equal(second, slots) {
			t.Errorf("the slots of %v become %v", before, second)
		}
	}
}

func TestSlotsAreTheSameEachTime(t *testing.T) {
	grids := append(someGrids(), wrongGrids()[:40]...)
	for i, g := range grids {
		slots, at, named := impl.SlotsOf(g), impl.SlotsAt(g, 1), impl.SlotNamed(g, "1d")
		other := grids[len(grids)-1-i]
		impl.SlotNamed(other, "1a")
		for _, s := range impl.SlotsOf(other) {
			impl.CellsOf(other, s)
		}
		if !slices.Equal(impl.SlotsOf(g), slots) || !slices.Equal(impl.SlotsAt(g, 1), at) || impl.SlotNamed(g, "1d") != named {
			t.Errorf("what the functions return of %v changes", short(g))
		}
	}
}
