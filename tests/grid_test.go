package tests

import (
	"math"
	"math/rand"
	"slices"
	"strings"
	"testing"

	"loop.example/g03003/impl"
)

func gridOf(rows, cols int, cells string) impl.Grid {
	return impl.Grid{Rows: rows, Cols: cols, Cells: cells}
}

// sides are the sizes that a grid may have.
func sides() [][2]int {
	var all [][2]int
	for rows := 2; rows <= 6; rows++ {
		for cols := 2; cols <= 6; cols++ {
			all = append(all, [2]int{rows, cols})
		}
	}
	return all
}

// gridsUpTo returns all grids with at most size cells.
func gridsUpTo(size int) []impl.Grid {
	var all []impl.Grid
	for _, side := range sides() {
		count := side[0] * side[1]
		if count > size {
			continue
		}
		for number := range 1 << count {
			cells := make([]byte, count)
			for i := range cells {
				cells[i] = "#."[number>>i&1]
			}
			all = append(all, gridOf(side[0], side[1], string(cells)))
		}
	}
	return all
}

// gridsWithOneCell returns, for each size, the grids in which no cell or just one is black, and those in which no cell or just one is white.
func gridsWithOneCell() []impl.Grid {
	var all []impl.Grid
	for _, side := range sides() {
		count := side[0] * side[1]
		for _, signs := range []string{".#", "#."} {
			same := strings.Repeat(signs[:1], count)
			all = append(all, gridOf(side[0], side[1], same))
			for cell := range count {
				all = append(all, gridOf(side[0], side[1], same[:cell]+signs[1:]+same[cell+1:]))
			}
		}
	}
	return all
}

// randomGrids returns as many grids of all sizes; every second one is its own half turn.
func randomGrids(count int, seed int64) []impl.Grid {
	source := rand.New(rand.NewSource(seed))
	all := make([]impl.Grid, count)
	for i := range all {
		rows, cols := 2+source.Intn(5), 2+source.Intn(5)
		cells := make([]byte, rows*cols)
		for k := range cells {
			cells[k] = "#.."[source.Intn(3)]
			if i%2 == 0 {
				cells[len(cells)-1-k] = cells[k]
			}
		}
		all[i] = gridOf(rows, cols, string(cells))
	}
	return all
}

func someGrids() []impl.Grid {
	return slices.Concat(gridsUpTo(8), gridsWithOneCell(), randomGrids(1000, 71))
}

// wrongGrids are grids of a wrong size, with too few or too many cells, or with cells that are neither black nor white.
func wrongGrids() []impl.Grid {
	wrong := []impl.Grid{
		{},
		gridOf(0, 0, "."), gridOf(0, 0, "...."), gridOf(0, 2, ""), gridOf(2, 0, ""), gridOf(0, 6, "......"), gridOf(6, 0, "......"),
		gridOf(1, 1, "."), gridOf(1, 2, ".."), gridOf(2, 1, ".."), gridOf(1, 4, "...."), gridOf(4, 1, "...."), gridOf(1, 6, "......"), gridOf(6, 1, "......"),
		gridOf(1, 36, strings.Repeat(".", 36)), gridOf(36, 1, strings.Repeat(".", 36)), gridOf(12, 3, strings.Repeat(".", 36)), gridOf(9, 4, strings.Repeat(".", 36)),
		gridOf(7, 2, strings.Repeat(".", 14)), gridOf(2, 7, strings.Repeat(".", 14)), gridOf(7, 6, strings.Repeat("#", 42)), gridOf(6, 7, strings.Repeat("#", 42)), gridOf(7, 7, strings.Repeat("#", 49)),
		gridOf(8, 8, strings.Repeat(".", 64)), gridOf(2, 32, strings.Repeat(".", 64)), gridOf(13, 5, strings.Repeat(".", 65)), gridOf(16, 16, strings.Repeat(".", 256)),
		gridOf(2, 2, ""), gridOf(2, 2, "..."), gridOf(2, 2, "....."), gridOf(6, 6, strings.Repeat(".", 35)), gridOf(6, 6, strings.Repeat(".", 37)),
		gridOf(2, 2, strings.Repeat(".", 4+256)), gridOf(2, 2, strings.Repeat("#", 1<<16)), gridOf(2, 2, strings.Repeat(".", 1<<20)), gridOf(6, 6, strings.Repeat("#", 36*36)),
		// The product of the sides is the number of cells.
		gridOf(-2, -2, "...."), gridOf(-1, -4, "...."), gridOf(-3, -3, "#########"), gridOf(-6, -6, strings.Repeat(".", 36)), gridOf(math.MaxInt, math.MaxInt, "."),
		// The product of the sides wraps around to the number of cells.
		gridOf(1<<32, 1<<32, ""), gridOf(1<<62, 4, ""), gridOf(4, 1<<62, ""), gridOf(1<<62+1, 4, "...."), gridOf(4, 1<<62+1, "...."), gridOf(1<<62+2, 4, "........"), gridOf(2, 1<<63-1, ".."),
		gridOf(math.MinInt, 2, ""), gridOf(2, math.MinInt, ""), gridOf(math.MinInt+2, 2, "...."), gridOf(2, math.MinInt+2, "...."), gridOf(math.MinInt+3, 6, strings.Repeat(".", 18)),
		gridOf(math.MinInt, math.MinInt, ""), gridOf(math.MaxInt, math.MinInt, "...."), gridOf(math.MaxInt, 0, ""), gridOf(0, math.MinInt, ""),
		// The size is right but for a remainder.
		gridOf(2+256, 2, "...."), gridOf(2, 2+256, "...."), gridOf(2+1<<32, 2, "...."), gridOf(2, 2+1<<32, "...."), gridOf(2-256, 2, "...."), gridOf(2, 2-1<<32, "...."),
		// Text instead of cells.
		gridOf(2, 2, "../.."), gridOf(2, 2, "../."), gridOf(2, 3, "../..."), gridOf(3, 2, "../../.."),
		gridOf(2, 2, ".日"), gridOf(2, 2, "éé"), gridOf(2, 2, "．."), gridOf(2, 2, "𝄞"), gridOf(2, 2, "..é"), gridOf(2, 2, "...é"), gridOf(2, 2, "é..."), gridOf(2, 2, "...\u2e2e"),
	}
	for _, side := range sides() {
		count := side[0] * side[1]
		wrong = append(wrong, gridOf(side[0], side[1], strings.Repeat(".", count-1)), gridOf(side[0], side[1], strings.Repeat("#", count+1)), gridOf(side[0], side[1], ""))
	}
	for value := range 256 {
		if b := byte(value); b != '#' && b != '.' {
			wrong = append(wrong, withSignAtEachCell(3, 2, b)...)
			wrong = append(wrong, withSignAtEachCell(6, 6, b)...)
		}
	}
	return wrong
}

// withSignAtEachCell returns grids with black and white cells, but for the byte b at one cell.
func withSignAtEachCell(rows, cols int, b byte) []impl.Grid {
	var made []impl.Grid
	for cell := range rows * cols {
		cells := []byte(strings.Repeat(".#.", 12)[:rows*cols])
		cells[cell] = b
		made = append(made, gridOf(rows, cols, string(cells)))
	}
	return made
}

// plainIsGrid says what IsGrid should.
func plainIsGrid(g impl.Grid) bool {
	if !slices.Contains(sides(), [2]int{g.Rows, g.Cols}) || len(g.Cells) != g.Rows*g.Cols {
		return false
	}
	return strings.Count(g.Cells, "#")+strings.Count(g.Cells, ".") == len(g.Cells)
}

// plainText says what GridText should, cell by cell.
func plainText(g impl.Grid) string {
	text := ""
	for row := 0; plainIsGrid(g) && row < g.Rows; row++ {
		if row > 0 {
			text += "/"
		}
		for col := range g.Cols {
			text += string(g.Cells[row*g.Cols+col])
		}
	}
	return text
}

// plainParse says what ParseGrid should, row by row.
func plainParse(s string) (impl.Grid, bool) {
	rows := strings.Split(s, "/")
	g := gridOf(len(rows), len(rows[0]), strings.Join(rows, ""))
	for _, row := range rows {
		if len(row) != g.Cols {
			return impl.Grid{}, false
		}
	}
	if !plainIsGrid(g) {
		return impl.Grid{}, false
	}
	return g, true
}

// plainTurn says what TurnGrid should, row by row and column by column.
func plainTurn(g impl.Grid) impl.Grid {
	if !plainIsGrid(g) {
		return impl.Grid{}
	}
	turned := ""
	for row := g.Rows - 1; row >= 0; row-- {
		for col := g.Cols - 1; col >= 0; col-- {
			turned += string(g.Cells[row*g.Cols+col])
		}
	}
	return gridOf(g.Rows, g.Cols, turned)
}

func short(g impl.Grid) impl.Grid {
	g.Cells = g.Cells[:min(len(g.Cells), 50)]
	return g
}

func TestMaxSide(t *testing.T) {
	if impl.MaxSide != 6 {
		t.Errorf("MaxSide is %d", impl.MaxSide)
	}
}

func TestIsGrid(t *testing.T) {
	for _, g := range slices.Concat(someGrids(), gridsUpTo(12)) {
		if !impl.IsGrid(g) {
			t.Errorf("IsGrid(%v) is false", g)
		}
	}
	for _, g := range wrongGrids() {
		if impl.IsGrid(g) {
			t.Errorf("IsGrid(%v) is true", short(g))
		}
	}
}

func TestIsGridGoesByTheSides(t *testing.T) {
	lengths := []int{math.MinInt, math.MinInt + 1, -1 << 32, -36, -7, -6, -2, -1, 0, 1, 2, 3, 4, 5, 6, 7, 8, 9, 12, 18, 36, 64, 256, 258, 1 << 31, 1 << 32, 1<<32 + 2, 1 << 62, math.MaxInt - 1, math.MaxInt}
	for _, rows := range lengths {
		for _, cols := range lengths {
			// The product may wrap around, and be the number of cells all the same.
			for _, count := range []int{0, 4, 36, min(max(rows*cols, 0), 4096)} {
				want := rows >= 2 && rows <= 6 && cols >= 2 && cols <= 6 && rows*cols == count
				for _, sign := range []string{".", "#"} {
					if got := impl.IsGrid(gridOf(rows, cols, strings.Repeat(sign, count))); got != want {
						t.Errorf("that %d rows and %d columns with %d cells are a grid is %t", rows, cols, count, got)
					}
				}
			}
		}
	}
}

func TestIsGridGoesByTheNumberOfCells(t *testing.T) {
	for _, side := range sides() {
		for count := range 320 {
			want := count == side[0]*side[1]
			if got := impl.IsGrid(gridOf(side[0], side[1], strings.Repeat(".", count))); got != want {
				t.Errorf("that %d cells are a grid of %d by %d is %t", count, side[0], side[1], got)
			}
		}
	}
}

func TestIsGridLooksAtEachCell(t *testing.T) {
	for value := range 256 {
		b := byte(value)
		for _, side := range sides() {
			for _, g := range withSignAtEachCell(side[0], side[1], b) {
				if got := impl.IsGrid(g); got != (b == '#' || b == '.') {
					t.Errorf("IsGrid(%q) is %t", g.Cells, got)
				}
			}
		}
	}
}

func TestIsWhite(t *testing.T) {
	g := gridOf(2, 3, "...#..")
	for cell, want := range []bool{true, true, true, false, true, true, false, false} {
		if got := impl.IsWhite(g, cell); got != want {
			t.Errorf("IsWhite(%v, %d) is %t", g, cell, got)
		}
	}
	outside := []int{math.MinInt, math.MinInt + 1, -1 << 32, -256, -64, -63, -36, -2, -1, 1 << 31, 1 << 32, 1<<32 + 1, 1 << 62, math.MaxInt - 1, math.MaxInt}
	for _, g := range someGrids() {
		for cell := -1; cell <= 66; cell++ {
			want := cell >= 0 && cell < len(g.Cells) && g.Cells[cell] == '.'
			if got := impl.IsWhite(g, cell); got != want {
				t.Errorf("IsWhite(%v, %d) is %t", g, cell, got)
			}
		}
		for _, cell := range outside {
			if impl.IsWhite(g, cell) {
				t.Errorf("IsWhite(%v, %d) is true", g, cell)
			}
		}
	}
	for _, g := range wrongGrids() {
		for _, cell := range append(outside, 0, 1, 2, 3, 5, 35, 36, len(g.Cells)-1, len(g.Cells)) {
			if impl.IsWhite(g, cell) {
				t.Errorf("IsWhite(%v, %d) is true", short(g), cell)
			}
		}
	}
}

func TestTurnGrid(t *testing.T) {
	cases := []struct{ text, want string }{
		{".../..#", "#../..."},
		{"#./..", "../.#"},
		{".#/..", "../#."},
		{"##/..", "../##"},
		{"#./#.", ".#/.#"},
		{"../..", "../.."},
		{"##/##", "##/##"},
		{"#./.#", "#./.#"},
		{"..#/.../#..", "..#/.../#.."},
		{"#.../.#../..#./...#", "#.../.#../..#./...#"},
		{"##/#./../../../..", "../../../../.#/##"},
		{"......./.......", ""},
		{"####../......", "....../..####"},
		{"#...../....../....../....../....../......", "....../....../....../....../....../.....#"},
		{".#####/######/######/######/######/######", "######/######/######/######/######/#####."},
		{"....../....../....../...#../....../......", "....../....../..#.../....../....../......"},
	}
	for _, c := range cases {
		g, _ := plainParse(c.text)
		want, _ := plainParse(c.want)
		if got := impl.TurnGrid(g); got != want {
			t.Errorf("TurnGrid of %s is %v", c.text, got)
		}
	}
	for _, g := range slices.Concat(someGrids(), gridsUpTo(12)) {
		got := impl.TurnGrid(g)
		if got != plainTurn(g) {
			t.Errorf("TurnGrid(%v) is %v", g, got)
		}
		if again := impl.TurnGrid(got); again != g {
			t.Errorf("TurnGrid(%v) is %v", got, again)
		}
	}
	for _, g := range wrongGrids() {
		if got := impl.TurnGrid(g); got != (impl.Grid{}) {
			t.Errorf("TurnGrid(%v) is %v", short(g), got)
		}
	}
}

func TestTurnGridMovesEachCell(t *testing.T) {
	for _, g := range someGrids() {
		turned := impl.TurnGrid(g)
		for cell := range len(g.Cells) {
			if impl.IsWhite(g, cell) != impl.IsWhite(turned, len(g.Cells)-1-cell) {
				t.Errorf("TurnGrid(%v) is %v", g, turned)
			}
		}
	}
}

func TestIsSymmetric(t *testing.T) {
	symmetric := []string{"../..", "##/##", "#./.#", ".#/#.", ".../...", "#../..#", ".#./.#.", "..#/.../#..", "#.#/.#./#.#", ".../.#./...", "...../..#../.....", "#.../.#../..#./...#", "....../....../....../....../....../......", "#...../....../....../....../....../.....#"}
	for _, text := range symmetric {
		if g, _ := plainParse(text); !impl.IsSymmetric(g) {
			t.Errorf("IsSymmetric of %s is false", text)
		}
	}
	other := []string{"#./..", ".#/..", "../#.", "../.#", "##/..", "#./#.", "##/#.", ".../..#", "#../#..", "..#/.../...", ".#./.../...", "#../.../#..", "...#/....", "....../....../....../...#../....../......", "#...../....../....../....../....../....#."}
	for _, text := range other {
		if g, _ := plainParse(text); impl.IsSymmetric(g) {
			t.Errorf("IsSymmetric of %s is true", text)
		}
	}
	for _, g := range slices.Concat(someGrids(), gridsUpTo(12)) {
		if got := impl.IsSymmetric(g); got != (g == plainTurn(g)) {
			t.Errorf("IsSymmetric(%v) is %t", g, got)
		}
	}
	// These are turned to the zero Grid, and the first of them is the zero Grid.
	for _, g := range wrongGrids() {
		if impl.IsSymmetric(g) {
			t.Errorf("IsSymmetric(%v) is true", short(g))
		}
	}
}

// A change of one cell makes a grid differ from its half turn, unless the cell is the middle one.
func TestIsSymmetricLooksAtEachCell(t *testing.T) {
	for _, g := range someGrids() {
		if !impl.IsSymmetric(g) {
			continue
		}
		for cell := range len(g.Cells) {
			cells := []byte(g.Cells)
			cells[cell] ^= '#' ^ '.'
			changed := gridOf(g.Rows, g.Cols, string(cells))
			if got := impl.IsSymmetric(changed); got != (2*cell == len(cells)-1) {
				t.Errorf("IsSymmetric(%v) is %t", changed, got)
			}
		}
	}
}

func TestGridText(t *testing.T) {
	cases := []struct {
		g    impl.Grid
		want string
	}{
		{gridOf(2, 2, "...."), "../.."},
		{gridOf(2, 2, "####"), "##/##"},
		{gridOf(2, 2, "#..."), "#./.."},
		{gridOf(2, 3, ".....#"), ".../..#"},
		{gridOf(3, 2, ".....#"), "../../.#"},
		{gridOf(3, 3, "..#...#.."), "..#/.../#.."},
		{gridOf(2, 6, "#..........."), "#...../......"},
		{gridOf(6, 2, "#..........."), "#./../../../../.."},
		{gridOf(6, 6, strings.Repeat(".", 35)+"#"), "....../....../....../....../....../.....#"},
		{gridOf(4, 3, "#..#..#..#.."), "#../#../#../#.."},
		{gridOf(3, 4, "#..#..#..#.."), "#..#/..#./.#.."},
		{gridOf(7, 2, ""), ""},
		{gridOf(1, 2, ".."), ""},
		{gridOf(2, 2, "..."), ""},
		{gridOf(2, 2, "...x"), ""},
		{impl.Grid{}, ""},
	}
	for _, c := range cases {
		if got := impl.GridText(c.g); got != c.want {
			t.Errorf("GridText(%v) is %q, not %q", c.g, got, c.want)
		}
	}
	for _, g := range slices.Concat(someGrids(), gridsUpTo(12)) {
		if got, want := impl.GridText(g), plainText(g); got != want {
			t.Errorf("GridText(%v) is %q, not %q", g, got, want)
		}
	}
	for _, g := range wrongGrids() {
		if got := impl.GridText(g); got != "" {
			t.Errorf("GridText(%v) is %q", short(g), got)
		}
	}
}

// Promise 7: a grid is parsed from its text.
func TestParseGridReadsTheTextOfEachGrid(t *testing.T) {
	for _, g := range slices.Concat(someGrids(), gridsUpTo(12), randomGrids(5000, 72)) {
		for _, text := range []string{impl.GridText(g), plainText(g)} {
			got, ok := impl.ParseGrid(text)
			if !ok || got != g {
				t.Errorf("ParseGrid(%q) is %v, %t, not %v", text, got, ok, g)
			}
			if again := impl.GridText(got); again != text {
				t.Errorf("the text of what is read from %q is %q", text, again)
			}
		}
	}
}

// checkParse checks that a string is read just if it is the text of a grid.
func checkParse(t *testing.T, s string) {
	t.Helper()
	want, found := plainParse(s)
	got, ok := impl.ParseGrid(s)
	if got != want || ok != found || ok != impl.IsGrid(got) {
		t.Errorf("ParseGrid(%.60q) is %v, %t, not %v, %t", s, got, ok, want, found)
	}
	if ok && impl.GridText(got) != s {
		t.Errorf("the text of what is read from %q is %q", s, impl.GridText(got))
	}
}

func TestParseGridRejects(t *testing.T) {
	wrong := []string{"", "/", "//", "///", ".", "#", "..", "##", "...", "....", "......", ".........", strings.Repeat(".", 36),
		// One row or one column.
		"./.", "#/.", "./#/.", "./././././.", "#/#/#/#/#/#/#", "/.", "./", "/..", "../", "/......", "....../",
		// Rows of unequal length.
		"../.", "./..", "../...", ".../..", "../../.", "../.../..", ".../.../..", "../../...", ".../.../....", ".../..../..", "....../.....", "..../..", "../......", "./...", ".../.",
		// Rows without a cell.
		"/../..", "../../", "..//..", "/../../", "//../..", "../..//", "..///..", ".../.../", "..//../..", "/../", "../..//..", "////", "....//", "//....",
		// Too many rows or columns.
		"......./.......", "......./......./.......", "../../../../../../..", "...../...../...../...../...../...../.....", "####### / #######", "......../........", strings.Repeat("......./", 6) + ".......", strings.Repeat("......./", 5) + ".......",
		// Other signs.
		"..x/...", "x./..", "../.x", "../. ", " ../..", "../..\n", "..\n..", "..\\..", "..|..", "..,..", "../..\x00", "\x00../..", "../.\x00", "../é", "é/..", "日/...", "．．/．．", ".．/..", "..／..", "../..é", "\xff./..", "../.\xaf", "..\xaf..", "../.\xae", "AB/CD", "?./..", "**/**", "  /  ", "01/10", "../..|", "../../\u2024\u2024",
		"2x2....", "2 2 ....", "[..] [..]"}
	for _, s := range wrong {
		if got, ok := impl.ParseGrid(s); ok || got != (impl.Grid{}) {
			t.Errorf("ParseGrid(%q) is %v, %t", s, got, ok)
		}
	}
	for _, unit := range []string{".", "#", "/", "./", "../", ".../", "......./", "/.", "é", "x", "\x00"} {
		for _, count := range []int{1, 2, 6, 7, 255, 256, 257, 258, 1 << 16, 1 << 20} {
			checkParse(t, strings.Repeat(unit, count))
			checkParse(t, strings.Repeat(unit, count)+"../..")
			checkParse(t, "../.."+strings.Repeat(unit, count))
		}
	}
	for _, s := range slices.Concat(noWords(), someWords(), noPatterns()) {
		checkParse(t, s)
		checkParse(t, s+"/"+s)
	}
}

func TestParseGridGoesByTheSides(t *testing.T) {
	for rows := range 40 {
		for cols := range 40 {
			lines := make([]string, rows)
			for i := range lines {
				lines[i] = strings.Repeat(".", cols)
			}
			g, ok := impl.ParseGrid(strings.Join(lines, "/"))
			want := rows >= 2 && rows <= 6 && cols >= 2 && cols <= 6
			if ok != want || ok && (g.Rows != rows || g.Cols != cols) || !ok && g != (impl.Grid{}) {
				t.Errorf("ParseGrid of %d rows and %d columns is %v, %t", rows, cols, g, ok)
			}
		}
	}
}

func TestParseGridOfAllShortTexts(t *testing.T) {
	found := 0
	for _, s := range append(wordsOver("#./", 11), "") {
		checkParse(t, s)
		if _, ok := impl.ParseGrid(s); ok {
			found++
		}
	}
	// They are the grids of 2 by 2, 2 by 3, 3 by 2, 2 by 4, 4 by 2, 3 by 3 and 2 by 5 cells.
	if want := 16 + 2*64 + 2*256 + 512 + 1024; found != want {
		t.Errorf("ParseGrid reads %d texts, not %d", found, want)
	}
	for _, s := range wordsOver("#./ x\x00", 6) {
		checkParse(t, s)
	}
}

// What is read from a text that one byte less, more or other makes is just what that text says.
func TestParseGridOfChangedTexts(t *testing.T) {
	texts := []string{"../..", ".../..#", "#./../.#", "..#/.../#..", "....../#.....", "....../....../...#../....../....../......", "##/##/##/##/##/##"}
	for _, text := range texts {
		checkParse(t, text)
		for place := range len(text) {
			checkParse(t, text[:place]+text[place+1:])
			for value := range 256 {
				b := string([]byte{byte(value)})
				checkParse(t, text[:place]+b+text[place+1:])
				checkParse(t, text[:place]+b+text[place:])
			}
			for next := place + 1; next < len(text); next++ {
				changed := []byte(text)
				changed[place], changed[next] = changed[next], changed[place]
				checkParse(t, string(changed))
			}
		}
		for _, other := range texts {
			checkParse(t, text+other)
			checkParse(t, text+"/"+other)
			checkParse(t, text+"\n"+other)
		}
	}
}

func TestGridsAreTheSameEachTime(t *testing.T) {
	grids := append(someGrids(), wrongGrids()[:40]...)
	for i, g := range grids {
		before, other := g, grids[len(grids)-1-i]
		text, turned, symmetric, white, valid := impl.GridText(g), impl.TurnGrid(g), impl.IsSymmetric(g), impl.IsWhite(g, 1), impl.IsGrid(g)
		read, ok := impl.ParseGrid(text)
		impl.ParseGrid(impl.GridText(impl.TurnGrid(other)))
		if g != before || impl.GridText(g) != text || impl.TurnGrid(g) != turned || impl.IsSymmetric(g) != symmetric || impl.IsWhite(g, 1) != white || impl.IsGrid(g) != valid {
			t.Errorf("what the functions return of %v changes", short(g))
		}
		if again, found := impl.ParseGrid(text); again != read || found != ok {
			t.Errorf("ParseGrid(%q) is %v, %t and then %v, %t", text, read, ok, again, found)
		}
	}
}
