package tests

import (
	"math"
	"math/rand"
	"slices"
	"strings"
	"testing"

	"loop.example/g03003/impl"
)

// fillBytes returns the bytes that a fill may have at a cell with this sign.
func fillBytes(sign byte) string {
	return map[byte]string{'#': "#", '.': "?abcdefghijklmnopqrstuvwxyz"}[sign]
}

// plainIsFill says what IsFill should.
func plainIsFill(g impl.Grid, fill string) bool {
	if !plainIsGrid(g) || len(fill) != len(g.Cells) {
		return false
	}
	for cell := range len(fill) {
		if strings.IndexByte(fillBytes(g.Cells[cell]), fill[cell]) < 0 {
			return false
		}
	}
	return true
}

// plainEmpty says what EmptyFill should.
func plainEmpty(g impl.Grid) string {
	if !plainIsGrid(g) {
		return ""
	}
	return strings.ReplaceAll(g.Cells, ".", "?")
}

// plainPatterns returns what the slots have in a fill, in order; none if it is no fill.
func plainPatterns(g impl.Grid, fill string) []string {
	patterns := []string{}
	if !plainIsFill(g, fill) {
		return patterns
	}
	for _, p := range plainSlots(g) {
		pattern := ""
		for _, cell := range p.cells {
			pattern += fill[cell : cell+1]
		}
		patterns = append(patterns, pattern)
	}
	return patterns
}

// withoutOpen returns the patterns that have no open place.
func withoutOpen(patterns []string) []string {
	return slices.DeleteFunc(slices.Clone(patterns), func(p string) bool { return strings.Contains(p, "?") })
}

// plainPut says what PutWord should, cell by cell.
func plainPut(g impl.Grid, fill string, slot int, word string) (string, bool) {
	patterns := plainPatterns(g, fill)
	if slot < 0 || slot >= len(patterns) || !plainFits(patterns[slot], word) {
		return fill, false
	}
	cells := plainSlots(g)[slot].cells
	made := ""
	for cell := range len(fill) {
		if place := slices.Index(cells, cell); place >= 0 {
			made += word[place : place+1]
		} else {
			made += fill[cell : cell+1]
		}
	}
	return made, true
}

// withByte returns the fill with another byte at one cell.
func withByte(fill string, cell int, b byte) string {
	return fill[:cell] + string([]byte{b}) + fill[cell+1:]
}

// randomFill returns a fill of a valid grid in which none, some or all white cells have a letter.
func randomFill(g impl.Grid, source *rand.Rand) string {
	fill := []byte(plainEmpty(g))
	share, kinds := source.Intn(5), 1+source.Intn(26)
	for cell, b := range fill {
		if b == '?' && source.Intn(4) < share {
			fill[cell] = byte('a' + source.Intn(kinds))
		}
	}
	return string(fill)
}

// fullFill returns a fill in which each white cell has a letter, and most cells another one than their neighbours.
func fullFill(g impl.Grid) string {
	fill := []byte(plainEmpty(g))
	for cell, b := range fill {
		if b == '?' {
			fill[cell] = "etaoinshrdlucmfwypvbgkqjxz"[cell%26]
		}
	}
	return string(fill)
}

// wordFor returns a word that fits a pattern.
func wordFor(pattern string, source *rand.Rand) string {
	word := []byte(pattern)
	for place, b := range word {
		if b == '?' {
			word[place] = byte('a' + source.Intn(26))
		}
	}
	return string(word)
}

// shortFill returns the beginning of a fill that may be very long.
func shortFill(fill string) string {
	return fill[:min(len(fill), 50)]
}

// checkFill checks what all functions but EmptyFill and PutWord return of a fill.
func checkFill(t *testing.T, g impl.Grid, fill string, valid bool, patterns []string) {
	t.Helper()
	if got := impl.IsFill(g, fill); got != valid {
		t.Errorf("IsFill(%v, %q) is %t", short(g), shortFill(fill), got)
	}
	if got, want := impl.IsFull(g, fill), valid && !strings.Contains(fill, "?"); got != want {
		t.Errorf("IsFull(%v, %q) is %t", short(g), shortFill(fill), got)
	}
	for slot := -1; slot <= len(patterns); slot++ {
		checkSlotPattern(t, g, fill, slot, patterns)
	}
	if got, want := impl.WordsIn(g, fill), withoutOpen(patterns); !slices.Equal(got, want) {
		t.Errorf("WordsIn(%v, %q) is %q, not %q", short(g), shortFill(fill), got, want)
	}
}

func checkSlotPattern(t *testing.T, g impl.Grid, fill string, slot int, patterns []string) {
	t.Helper()
	want := ""
	if slot >= 0 && slot < len(patterns) {
		want = patterns[slot]
	}
	if got := impl.SlotPattern(g, fill, slot); got != want {
		t.Errorf("SlotPattern(%v, %q, %d) is %q, not %q", short(g), shortFill(fill), slot, got, want)
	}
}

// checkPlainFill checks that the functions return of a fill what the plain ones do.
func checkPlainFill(t *testing.T, g impl.Grid, fill string) {
	t.Helper()
	checkFill(t, g, fill, plainIsFill(g, fill), plainPatterns(g, fill))
}

// checkNoFill checks that the functions find no fill, and that no word can be written into it.
func checkNoFill(t *testing.T, g impl.Grid, fill string) {
	t.Helper()
	checkFill(t, g, fill, false, nil)
	for _, word := range []string{"aa", "aaa", "aaaaaa", fill[:min(2, len(fill))], fill} {
		for _, slot := range []int{0, 1} {
			checkNotPut(t, g, fill, slot, word)
		}
	}
}

func checkPut(t *testing.T, g impl.Grid, fill string, slot int, word string, want string, ok bool) {
	t.Helper()
	got, gotOK := impl.PutWord(g, fill, slot, word)
	if got != want || gotOK != ok {
		t.Errorf("PutWord(%v, %q, %d, %.40q) is %q, %t, not %q, %t", short(g), shortFill(fill), slot, word, shortFill(got), gotOK, shortFill(want), ok)
	}
}

func checkPlainPut(t *testing.T, g impl.Grid, fill string, slot int, word string) {
	t.Helper()
	want, ok := plainPut(g, fill, slot, word)
	checkPut(t, g, fill, slot, word, want, ok)
}

// checkNotPut checks that a word is not written, and that the fill comes back.
func checkNotPut(t *testing.T, g impl.Grid, fill string, slot int, word string) {
	t.Helper()
	checkPut(t, g, fill, slot, word, fill, false)
}

// fillCases are fills with their rows apart, and with the patterns of their slots.
var fillCases = []struct {
	text, fill string
	full       bool
	patterns   string
}{
	// Grids of 2 by 2 cells, and what is in their slots: 1 across, 1 down, 2 down, 3 across.
	{"../..", "??/??", false, "?? ?? ?? ??"},
	{"../..", "ab/cd", true, "ab ac bd cd"},
	{"../..", "a?/??", false, "a? a? ?? ??"},
	{"../..", "ab/??", false, "ab a? b? ??"},
	{"../..", "a?/?d", false, "a? a? ?d ?d"},
	{"../..", "ab/c?", false, "ab ac b? c?"},
	{"../..", "?b/cd", false, "?b ?c bd cd"},
	{"../..", "aa/aa", true, "aa aa aa aa"},
	{"../..", "za/az", true, "za za az az"},
	{"#./..", "#?/??", false, "?? ??"},
	{"#./..", "#b/cd", true, "bd cd"},
	{"#./..", "#b/?d", false, "bd ?d"},
	{"../.#", "ab/c#", true, "ab ac"},
	{"../##", "??/##", false, "??"},
	{"../##", "no/##", true, "no"},
	{".#/.#", "n#/o#", true, "no"},
	// No white cell, and white cells in no slot.
	{"##/##", "##/##", true, ""},
	{"######/######/######/######/######/######", "######/######/######/######/######/######", true, ""},
	{".#/##", "?#/##", false, ""},
	{".#/##", "q#/##", true, ""},
	{".#/#.", "?#/#?", false, ""},
	{".#/#.", "a#/#?", false, ""},
	{".#/#.", "a#/#b", true, ""},
	{"###/#.#/###", "###/#z#/###", true, ""},
	{"..#/##.", "ab#/##?", false, "ab"},
	{"..#/##.", "ab#/##c", true, "ab"},
	// Grids that are not square.
	{".../...", "cat/ado", true, "cat ca ad to ado"},
	{".../...", "cat/?d?", false, "cat c? ad t? ?d?"},
	{"../../..", "ca/ad/to", true, "ca cat ado ad to"},
	{"../../..", "?a/?d/?o", false, "?a ??? ado ?d ?o"},
	{"#../...", "#no/wet", true, "no ne ot wet"},
	{"....../#.##.#", "orange/#a##e#", true, "orange ra ge"},
	{"..../.##./....", "trap/o##e/ease", true, "trap toe pee ease"},
	{"..../.##./....", "t??p/o##e/????", false, "t??p to? pe? ????"},
	// Slots across and down that cross in a cell, and that are full because the others are.
	{".../.#./...", "eat/r#a/arc", true, "eat era tac arc"},
	{".../.#./...", "eat/r#a/a?c", false, "eat era tac a?c"},
	{".../.#./...", "???/?#?/???", false, "??? ??? ??? ???"},
	{".../.#./...", "eat/?#?/arc", false, "eat e?a t?c arc"},
	{".../.../...", "cat/are/tea", true, "cat cat are tea are tea"},
	{".../.../...", "cat/?r?/tea", false, "cat c?t are t?a ?r? tea"},
	{".#./.../.#.", "a#b/cde/f#g", true, "acf beg cde"},
	{"#.#/.../#.#", "#b#/c?e/#g#", false, "b?g c?e"},
	// The same word in two slots.
	{".../.#./...", "eve/?#?/eve", false, "eve e?e e?e eve"},
	{".../.#./...", "eve/v#v/eve", true, "eve eve eve eve"},
	{"../##/..", "no/##/no", true, "no no"},
	{".#./.#./.#.", "a#a/b#b/c#c", true, "abc abc"},
	// MaxSide by MaxSide cells.
	{"....../....../....../....../....../......", "??????/??????/??????/??????/??????/??????", false, "?????? ?????? ?????? ?????? ?????? ?????? ?????? ?????? ?????? ?????? ?????? ??????"},
	{"....../....../....../....../....../......", "??????/??????/??z???/??????/??????/??????", false, "?????? ?????? ?????? ??z??? ?????? ?????? ?????? ?????? ??z??? ?????? ?????? ??????"},
	{"....../#####./......", "abcdef/#####g/hijklm", true, "abcdef fgm hijklm"},
	{"....../.#.#.#/......", "abcdef/g#h#i#/jklmno", true, "abcdef agj chl ein jklmno"},
	{"#####./#####./#####./#####./#####./......", "#####f/#####l/#####m/#####n/#####o/abcdep", true, "flmnop abcdep"},
	{"#####./#####./#####./#####./#####./......", "#####?/#####l/#####m/#####n/#####o/abcdep", false, "?lmnop abcdep"},
}

func TestFillCases(t *testing.T) {
	for _, c := range fillCases {
		g, valid := plainParse(c.text)
		fill := strings.ReplaceAll(c.fill, "/", "")
		if !valid || strings.Contains(fill, "?") == c.full {
			t.Fatalf("%s and %s are no case", c.text, c.fill)
		}
		patterns := strings.Fields(c.patterns)
		checkFill(t, g, fill, true, patterns)
		if want := plainPatterns(g, fill); !slices.Equal(patterns, want) {
			t.Errorf("the slots of %s should have %q", c.fill, want)
		}
		// With the ends of its rows it is no fill.
		checkNoFill(t, g, c.fill)
	}
}

func TestFillsOfManyGrids(t *testing.T) {
	source := rand.New(rand.NewSource(111))
	for _, g := range slices.Concat(slottedGrids(), gridsUpTo(9), randomGrids(1000, 112)) {
		for _, fill := range []string{plainEmpty(g), fullFill(g), randomFill(g, source), randomFill(g, source)} {
			checkPlainFill(t, g, fill)
		}
	}
}

func TestEmptyFill(t *testing.T) {
	cases := map[string]string{
		"../..": "????", "##/##": "####", ".#/##": "?###", "#./..": "#???", ".../.#./...": "????#????", "#../...": "#?????", "../#./..": "??#???",
		"....../......": "????????????", "....../#.#.#./......": "??????#?#?#???????",
	}
	for text, want := range cases {
		g, _ := plainParse(text)
		if got := impl.EmptyFill(g); got != want {
			t.Errorf("EmptyFill(%s) is %q", text, got)
		}
	}
	for _, g := range slices.Concat(slottedGrids(), gridsUpTo(12)) {
		got := impl.EmptyFill(g)
		if got != plainEmpty(g) {
			t.Errorf("EmptyFill(%v) is %q", g, got)
		}
		if !impl.IsFill(g, got) || impl.IsFull(g, got) != !strings.Contains(g.Cells, ".") || len(impl.WordsIn(g, got)) != 0 {
			t.Errorf("EmptyFill(%v), %q, is no fill, or has letters", g, got)
		}
	}
	for _, g := range wrongGrids() {
		if got := impl.EmptyFill(g); got != "" {
			t.Errorf("EmptyFill(%v) is %q", short(g), got)
		}
	}
}

func TestIsFillLooksAtEachCell(t *testing.T) {
	for _, text := range []string{"../..", "#./.#", "##/##", ".../.#./...", "....#/.#.../..#..", "....../#.#.#./......", "#....#/....../..##../..##../....../#....#"} {
		g, _ := plainParse(text)
		for _, fill := range []string{plainEmpty(g), fullFill(g)} {
			for cell := range len(fill) {
				for value := range 256 {
					checkPlainFill(t, g, withByte(fill, cell, byte(value)))
				}
			}
		}
	}
}

// A black cell has no letter, though it may stand where a word would have one, or where no word is.
func TestFillsWithLettersInBlackCells(t *testing.T) {
	for _, g := range slices.Concat(gridsUpTo(6), gridsWithOneCell(), randomGrids(300, 113)) {
		for _, fill := range []string{plainEmpty(g), fullFill(g)} {
			for cell := range len(fill) {
				if g.Cells[cell] == '#' {
					checkNoFill(t, g, withByte(fill, cell, 'a'))
					checkNoFill(t, g, withByte(fill, cell, '?'))
					checkNoFill(t, g, withByte(fill, cell, '.'))
				} else {
					checkNoFill(t, g, withByte(fill, cell, '#'))
					checkNoFill(t, g, withByte(fill, cell, '.'))
				}
			}
		}
	}
	// As many black cells as the grid has, but not the same ones.
	g, _ := plainParse("#../.../..#")
	for _, fill := range []string{"abcdefg##", "##bcdefgh", "a#cdefgh#", "#abcdef#g", "????#????", "?#??????#", "#?????#??", "?????????", "#########"} {
		checkNoFill(t, g, fill)
	}
	checkFill(t, g, "#abcdefg#", true, []string{"ab", "adg", "be", "cde", "cf", "fg"})
}

func TestIsFillGoesByTheLength(t *testing.T) {
	for _, side := range sides() {
		g := gridOf(side[0], side[1], strings.Repeat(".#.", 12)[:side[0]*side[1]])
		for _, fill := range []string{plainEmpty(g), fullFill(g)} {
			checkPlainFill(t, g, fill)
			for _, other := range []string{"", fill[1:], fill[:len(fill)-1], fill + "?", fill + "a", fill + "#", "?" + fill, "a" + fill, "#" + fill, fill + fill,
				fill + "\x00", fill + " ", fill + "\n", " " + fill, fill + strings.Repeat("?", 64-len(fill)), fill + strings.Repeat("#", 64), fill + strings.Repeat("a", 256), strings.Repeat(fill, 1000)} {
				checkNoFill(t, g, other)
			}
		}
	}
}

func TestFillsWithOtherCharacters(t *testing.T) {
	g, _ := plainParse("../..")
	for _, fill := range []string{"ABCD", "abcD", "Abcd", "????"[:3] + "Z", "ab d", "abc1", "ab-d", "....", "abc.", "abc*", "abc_", "abc`", "abc{", "abc@", "abc>", "abc/", "ab/cd", "ab/d",
		"éé", "abé", "éab", "aéb", "日a", "𝄞", "ab\xc3\xa9", "abc\xff", "\x80bcd", "\xe1\xe2\xe3\xe4", "abc\xe1", "abc\xbf", "abc\xa3", "ａb", "？a", "a？", "＃?", "abc\x00", "\x00\x00\x00\x00", "abc\n", "日本日本", "éééé", "？？？？"} {
		checkNoFill(t, g, fill)
	}
}

// wouldBeFill returns what would be the fill of a grid without letters, or with letters in all white cells, if the grid were valid.
func wouldBeFill(g impl.Grid, letter string) string {
	return strings.ReplaceAll(g.Cells, ".", letter)
}

func TestFillsOfWrongGrids(t *testing.T) {
	for _, g := range wrongGrids() {
		fills := []string{"", "????", "abcd", wouldBeFill(g, "?"), wouldBeFill(g, "a"), g.Cells}
		if g.Rows > 0 && g.Cols > 0 && g.Rows <= 100 && g.Cols <= 100 {
			fills = append(fills, strings.Repeat("?", g.Rows*g.Cols))
		}
		for _, fill := range fills {
			checkNoFill(t, g, fill)
		}
	}
	// Each of these grids is valid but for one number.
	for _, g := range []impl.Grid{gridOf(2, 2, "...."), gridOf(3, 4, ".....##....."), gridOf(6, 6, strings.Repeat(".", 36))} {
		fill := fullFill(g)
		checkPlainFill(t, g, fill)
		for _, change := range edgeInts() {
			rows, cols := g, g
			rows.Rows, cols.Cols = g.Rows+change, g.Cols+change
			for _, changed := range []impl.Grid{rows, cols} {
				if changed != g {
					checkNoFill(t, changed, fill)
					checkNoFill(t, changed, plainEmpty(g))
				}
			}
		}
	}
	// The zero Grid has no cells, and no fill, not even an empty one.
	checkNoFill(t, impl.Grid{}, "")
}

// A fill of one grid is no fill of another one with its black cells elsewhere, or with other sides, unless its cells are the same.
func TestFillsOfOtherGrids(t *testing.T) {
	grids := slices.Concat(gridsUpTo(4), randomGrids(60, 114))
	for _, g := range grids {
		for _, other := range grids {
			checkPlainFill(t, other, fullFill(g))
			if impl.IsFill(other, fullFill(g)) != (other.Cells == g.Cells) {
				t.Errorf("a fill of %v is one of %v too", g, other)
			}
		}
	}
}

func TestSlotPatternAtAllIndices(t *testing.T) {
	source := rand.New(rand.NewSource(115))
	for _, g := range slices.Concat(gridsUpTo(8), gridsWithOneCell(), gridsWithOneLine(), randomGrids(300, 116)) {
		for _, fill := range []string{fullFill(g), randomFill(g, source)} {
			patterns := plainPatterns(g, fill)
			for _, slot := range slices.Concat(indicesAround(len(patterns)), edgeInts()) {
				checkSlotPattern(t, g, fill, slot, patterns)
			}
		}
	}
}

// A full fill with one open cell is not full, and no word goes through that cell.
func TestFillsWithOneOpenCell(t *testing.T) {
	for _, g := range slices.Concat(gridsUpTo(8), gridsWithOneCell(), randomGrids(200, 117)) {
		full := fullFill(g)
		if !impl.IsFull(g, full) {
			t.Errorf("%q is no full fill of %v", full, g)
		}
		for cell := range len(full) {
			if g.Cells[cell] == '#' {
				continue
			}
			almost, alone := withByte(full, cell, '?'), withByte(plainEmpty(g), cell, 'q')
			checkPlainFill(t, g, almost)
			checkPlainFill(t, g, alone)
			if impl.IsFull(g, almost) || impl.IsFull(g, alone) != (strings.Count(g.Cells, ".") == 1) {
				t.Errorf("IsFull goes wrong for %v with %q or %q", g, almost, alone)
			}
			if got, want := len(impl.WordsIn(g, full))-len(impl.WordsIn(g, almost)), len(plainAt(g, cell)); got != want {
				t.Errorf("without cell %d, %d words of %q are gone, not %d", cell, got, full, want)
			}
		}
	}
}

var putCases = []struct {
	text, fill string
	slot       int
	word, want string
	ok         bool
}{
	// Across and down, into an empty fill and beside other words.
	{".../.#./...", "???/?#?/???", 0, "eat", "eat/?#?/???", true},
	{".../.#./...", "???/?#?/???", 1, "era", "e??/r#?/a??", true},
	{".../.#./...", "???/?#?/???", 2, "tac", "??t/?#a/??c", true},
	{".../.#./...", "???/?#?/???", 3, "arc", "???/?#?/arc", true},
	// A word that meets the letters of those that cross it.
	{".../.#./...", "eat/?#?/???", 1, "era", "eat/r#?/a??", true},
	{".../.#./...", "eat/r#?/a??", 2, "tac", "eat/r#a/a?c", true},
	{".../.#./...", "eat/r#a/a?c", 3, "arc", "eat/r#a/arc", true},
	// A word that contradicts a letter that stands there: the first one, the last one, or its own.
	{".../.#./...", "eat/?#?/???", 1, "are", "eat/?#?/???", false},
	{".../.#./...", "eat/r#a/a?c", 3, "are", "eat/r#a/a?c", false},
	{".../.#./...", "eat/r#a/a?c", 3, "orc", "eat/r#a/a?c", false},
	{".../.#./...", "eat/?#?/???", 0, "tea", "eat/?#?/???", false},
	{".../.#./...", "eat/?#?/???", 0, "eau", "eat/?#?/???", false},
	{".../.#./...", "eat/?#?/???", 0, "eet", "eat/?#?/???", false},
	// A word over itself, where it stands alone and in a full fill.
	{".../.#./...", "eat/?#?/???", 0, "eat", "eat/?#?/???", true},
	{".../.#./...", "eat/r#a/arc", 0, "eat", "eat/r#a/arc", true},
	{".../.#./...", "eat/r#a/arc", 1, "era", "eat/r#a/arc", true},
	{".../.#./...", "eat/r#a/arc", 2, "tac", "eat/r#a/arc", true},
	{".../.#./...", "eat/r#a/arc", 3, "arc", "eat/r#a/arc", true},
	{".../.#./...", "eat/r#a/arc", 3, "art", "eat/r#a/arc", false},
	// The same word in two slots.
	{".../.#./...", "eve/?#?/???", 1, "eve", "eve/v#?/e??", true},
	{".../.#./...", "eve/v#?/e??", 3, "eve", "eve/v#?/eve", true},
	// Too short, too long, empty, and no words.
	{".../.#./...", "???/?#?/???", 0, "ea", "???/?#?/???", false},
	{".../.#./...", "???/?#?/???", 0, "eats", "???/?#?/???", false},
	{".../.#./...", "???/?#?/???", 0, "", "???/?#?/???", false},
	{".../.#./...", "???/?#?/???", 0, "EAT", "???/?#?/???", false},
	{".../.#./...", "???/?#?/???", 0, "e?t", "???/?#?/???", false},
	{".../.#./...", "???/?#?/???", 0, "???", "???/?#?/???", false},
	{".../.#./...", "eat/?#?/???", 0, "e?t", "eat/?#?/???", false},
	{".../.#./...", "eat/?#?/???", 1, "e??", "eat/?#?/???", false},
	{".../.#./...", "???/?#?/???", 0, "e#t", "???/?#?/???", false},
	{".../.#./...", "???/?#?/???", 0, "é.", "???/?#?/???", false},
	{".../.#./...", "???/?#?/???", 0, "日", "???/?#?/???", false},
	// No such slot.
	{".../.#./...", "???/?#?/???", -1, "eat", "???/?#?/???", false},
	{".../.#./...", "???/?#?/???", 4, "eat", "???/?#?/???", false},
	{".../.#./...", "???/?#?/???", math.MaxInt, "eat", "???/?#?/???", false},
	{".../.#./...", "???/?#?/???", math.MinInt, "eat", "???/?#?/???", false},
	{"##/##", "##/##", 0, "no", "##/##", false},
	{"##/##", "##/##", 0, "", "##/##", false},
	{".#/##", "?#/##", 0, "a", "?#/##", false},
	// Slots that begin or end at a side, beside black cells and a white cell in no slot.
	{"../..", "??/??", 0, "no", "no/??", true},
	{"../..", "??/??", 1, "no", "n?/o?", true},
	{"../..", "??/??", 2, "no", "?n/?o", true},
	{"../..", "??/??", 3, "no", "??/no", true},
	{"../..", "no/n?", 3, "no", "no/no", true},
	{"../..", "no/n?", 2, "no", "no/n?", false},
	{"#..#/####/.#..", "#??#/####/q#??", 0, "no", "#no#/####/q#??", true},
	{"#..#/####/.#..", "#??#/####/?#??", 1, "no", "#??#/####/?#no", true},
	{"#.#/#.#/#.#", "#?#/#?#/#?#", 0, "arc", "#a#/#r#/#c#", true},
	{"....../#####.", "??????/#####?", 0, "orange", "orange/#####?", true},
	{"....../#####.", "??????/#####?", 1, "ed", "?????e/#####d", true},
	{"....../#####.", "orange/#####?", 1, "ed", "orange/#####d", true},
	{"....../#####.", "orange/#####?", 1, "do", "orange/#####?", false},
	{"....../#####.", "??????/#####?", 0, "oranges", "??????/#####?", false},
	{"....../....../....../....../....../......", "??????/??????/??????/??????/??????/??????", 6, "sixths", "?????s/?????i/?????x/?????t/?????h/?????s", true},
	{"....../....../....../....../....../......", "??????/??????/??????/??????/??????/??????", 11, "sixths", "??????/??????/??????/??????/??????/sixths", true},
	// What is no fill comes back as it is.
	{"../..", "??/?#", 0, "no", "??/?#", false},
	{"../..", "??/?A", 0, "no", "??/?A", false},
	{"#./..", "a?/??", 0, "no", "a?/??", false},
	{"#./..", "??/??", 1, "no", "??/??", false},
	{"../..", "??/?", 0, "no", "??/?", false},
	{"../..", "??/???", 0, "no", "??/???", false},
	{"../..", "", 0, "no", "", false},
	{"../..", "", 0, "", "", false},
	// What is no grid has no slot.
	{"../", "??", 0, "no", "??", false},
	{"..", "??", 0, "no", "??", false},
}

func TestPutWordCases(t *testing.T) {
	for _, c := range putCases {
		g, _ := plainParse(c.text)
		fill, want := strings.ReplaceAll(c.fill, "/", ""), strings.ReplaceAll(c.want, "/", "")
		checkPut(t, g, fill, c.slot, c.word, want, c.ok)
		if plain, ok := plainPut(g, fill, c.slot, c.word); plain != want || ok != c.ok {
			t.Errorf("%q in slot %d of %s should become %q, %t", c.word, c.slot, c.fill, plain, ok)
		}
	}
}

// checkStands checks what a word that is written changes: it stands there, and each other cell keeps what it had.
func checkStands(t *testing.T, g impl.Grid, fill string, slot int, word string) string {
	t.Helper()
	placed := plainSlots(g)
	made, ok := impl.PutWord(g, fill, slot, word)
	if !ok || !impl.IsFill(g, made) || impl.SlotPattern(g, made, slot) != word {
		t.Fatalf("%q is not written into slot %d of %q, which becomes %q", word, slot, fill, made)
	}
	for cell := range len(fill) {
		want := fill[cell]
		if place := slices.Index(placed[slot].cells, cell); place >= 0 {
			want = word[place]
		}
		if made[cell] != want {
			t.Errorf("with %q in slot %d of %q, cell %d has %q", word, slot, fill, cell, made[cell])
		}
	}
	checkPut(t, g, made, slot, word, made, true)
	return made
}

func TestAWordThatIsWrittenStandsThere(t *testing.T) {
	source := rand.New(rand.NewSource(118))
	for _, g := range slices.Concat(gridsUpTo(9), gridsWithOneCell(), gridsWithOneLine(), randomGrids(500, 119)) {
		fill := randomFill(g, source)
		for slot, pattern := range plainPatterns(g, fill) {
			made := checkStands(t, g, fill, slot, wordFor(pattern, source))
			checkPlainFill(t, g, made)
		}
	}
}

// Whatever stands in the other slots, each word of the right length can be written, and fits just where no letter contradicts it.
func TestPutWordOfAllShortWords(t *testing.T) {
	words := wordsOver("ab", 3)
	for _, text := range []string{"../..", ".../...", "#./..", "../#.", "#../..."} {
		g, _ := plainParse(text)
		for _, fill := range fillsOver(g, "ab?") {
			for slot := -1; slot <= len(plainSlots(g)); slot++ {
				for _, word := range words {
					checkPlainPut(t, g, fill, slot, word)
				}
			}
		}
	}
}

// fillsOver returns all fills of a grid with these bytes in its white cells.
func fillsOver(g impl.Grid, signs string) []string {
	fills := []string{""}
	for cell := range len(g.Cells) {
		bytes := signs
		if g.Cells[cell] == '#' {
			bytes = "#"
		}
		var longer []string
		for _, fill := range fills {
			for i := range len(bytes) {
				longer = append(longer, fill+bytes[i:i+1])
			}
		}
		fills = longer
	}
	return fills
}

// The slots that cross a word get one letter of it each, and the others none.
func TestCrossingSlotsGetOneLetter(t *testing.T) {
	source := rand.New(rand.NewSource(120))
	for _, g := range slices.Concat(gridsUpTo(9), randomGrids(300, 121)) {
		empty := plainEmpty(g)
		placed := plainSlots(g)
		for slot, p := range placed {
			word := wordFor(strings.Repeat("?", len(p.cells)), source)
			made := checkStands(t, g, empty, slot, word)
			crossed := plainCrossed(placed, slot)
			for other := range placed {
				pattern := impl.SlotPattern(g, made, other)
				letters := strings.Trim(pattern, "?")
				switch {
				case other == slot:
				case slices.Contains(crossed, other) && (len(letters) != 1 || !strings.Contains(word, letters)):
					t.Errorf("with %q in slot %d of %v, slot %d has %q", word, slot, g, other, pattern)
				case !slices.Contains(crossed, other) && letters != "":
					t.Errorf("with %q in slot %d of %v, slot %d, which does not cross it, has %q", word, slot, g, other, pattern)
				}
			}
		}
	}
}

// Words that are written one after the other make the fill whose words they are, in whatever order they are written.
func TestFillsAreMadeOfTheirWords(t *testing.T) {
	source := rand.New(rand.NewSource(122))
	for _, g := range slices.Concat(gridsUpTo(8), fineGrids(), randomGrids(300, 123)) {
		full := fullFill(g)
		words := plainPatterns(g, full)
		fill := impl.EmptyFill(g)
		for _, slot := range source.Perm(len(words)) {
			fill = checkStands(t, g, fill, slot, words[slot])
		}
		if !slices.Equal(impl.WordsIn(g, fill), words) {
			t.Errorf("the words %q of %v become %q", words, g, impl.WordsIn(g, fill))
		}
		// Only white cells in no slot are still open.
		for cell := range len(fill) {
			if fill[cell] != full[cell] && (fill[cell] != '?' || len(plainAt(g, cell)) != 0) {
				t.Errorf("cell %d of %v has %q", cell, g, fill[cell])
			}
		}
	}
}

// With a word in each slot across, the slots down have words too where all their cells are crossed.
func TestSlotsAreFullWhenAllThatCrossThemAre(t *testing.T) {
	for _, side := range sides() {
		g := gridOf(side[0], side[1], strings.Repeat(".", side[0]*side[1]))
		full := fullFill(g)
		fill := impl.EmptyFill(g)
		for slot, p := range plainSlots(g) {
			if !p.slot.Down {
				if got := impl.WordsIn(g, fill); len(got) != p.slot.Cell/g.Cols {
					t.Errorf("after %d rows, %q has the words %q", p.slot.Cell/g.Cols, fill, got)
				}
				fill = checkStands(t, g, fill, slot, full[p.slot.Cell:p.slot.Cell+g.Cols])
			}
		}
		if fill != full || !impl.IsFull(g, fill) || len(impl.WordsIn(g, fill)) != side[0]+side[1] {
			t.Errorf("%v is filled by its rows with %q, of which the words are %q", g, fill, impl.WordsIn(g, fill))
		}
	}
}

func TestPutWordLooksAtEachLetter(t *testing.T) {
	for _, text := range []string{"....../#####.", "#....#/......", ".../.#./...", "#.#/#.#/#.#/#.#/#.#/#.#"} {
		g, _ := plainParse(text)
		full := fullFill(g)
		for slot, word := range plainPatterns(g, full) {
			for place := range len(word) {
				for value := range 256 {
					other := withByte(word, place, byte(value))
					// What stands there contradicts each other byte; where nothing stands, just the letters fit.
					checkPlainPut(t, g, full, slot, other)
					checkPlainPut(t, g, plainEmpty(g), slot, other)
					cell := plainSlots(g)[slot].cells[place]
					checkPlainPut(t, g, withByte(full, cell, '?'), slot, other)
					checkPlainPut(t, g, withByte(plainEmpty(g), cell, word[place]), slot, other)
				}
			}
		}
	}
}

func TestPutWordRejectsOtherWords(t *testing.T) {
	source := rand.New(rand.NewSource(124))
	grids := []impl.Grid{gridOf(2, 2, "...."), gridOf(6, 6, strings.Repeat(".", 36)), gridOf(3, 5, ".....#.#.#....."), gridOf(2, 2, "####")}
	for _, g := range grids {
		for _, fill := range []string{plainEmpty(g), fullFill(g), randomFill(g, source)} {
			for _, word := range slices.Concat(noWords(), noPatterns()) {
				checkNotPut(t, g, fill, 0, word)
			}
		}
	}
}

func TestPutWordRejectsOtherSlots(t *testing.T) {
	for _, g := range slices.Concat(gridsUpTo(6), gridsWithOneCell(), randomGrids(100, 125)) {
		fill := plainEmpty(g)
		count := len(plainSlots(g))
		for _, slot := range slices.Concat(indicesAround(count), edgeInts()) {
			if slot >= 0 && slot < count {
				continue
			}
			for _, word := range []string{"", "no", "sixths"} {
				checkNotPut(t, g, fill, slot, word)
			}
		}
	}
}

func TestPutWordKeepsWhatIsNoFill(t *testing.T) {
	g, _ := plainParse(".../.#./...")
	for _, fill := range []string{"", "?", "????#???", "????#?????", "?????????", "####?####", "????a????", "?#??#????", "A???#????", "????#???#", "????#???\xff", "????#??é", strings.Repeat("?", 1<<16)} {
		for slot := range 4 {
			checkNotPut(t, g, fill, slot, "eat")
		}
	}
	for _, g := range wrongGrids() {
		for _, fill := range []string{wouldBeFill(g, "?"), "", "????"} {
			for _, word := range []string{"no", "arc", "sixths", ""} {
				checkNotPut(t, g, fill, 0, word)
			}
		}
	}
}

func overwriteStrings(l []string) {
	l = l[:cap(l)]
	for i := range l {
		l[i] = "over"
	}
}

func TestWordsInIsNewEachTime(t *testing.T) {
	for _, g := range slices.Concat(gridsUpTo(6), gridsWithOneCell(), randomGrids(100, 126)) {
		for _, fill := range []string{fullFill(g), plainEmpty(g), "", "no fill"} {
			want := withoutOpen(plainPatterns(g, fill))
			first, second := impl.WordsIn(g, fill), impl.WordsIn(g, fill)
			overwriteStrings(first)
			if !slices.Equal(second, want) || !slices.Equal(impl.WordsIn(g, fill), want) {
				t.Errorf("a change of one result of WordsIn(%v, %q) makes another one %q", g, fill, second)
			}
		}
	}
}

// A fill that is written into serves again: what was made of it before stays what it was.
func TestFillsKeepTheirBytes(t *testing.T) {
	g, _ := plainParse(".../.#./...")
	cells := []byte("eat?#????")
	fill := string(cells)
	first, _ := impl.PutWord(g, fill, 1, "era")
	second, _ := impl.PutWord(g, fill, 1, "ear")
	third, _ := impl.PutWord(g, first, 2, "tac")
	if fill != "eat?#????" || first != "eatr#?a??" || second != "eata#?r??" || third != "eatr#aa?c" {
		t.Errorf("the fills become %q, %q, %q and %q", fill, first, second, third)
	}
	if g != gridOf(3, 3, "....#....") {
		t.Errorf("the grid becomes %v", g)
	}
}

func TestFillsAreTheSameEachTime(t *testing.T) {
	source := rand.New(rand.NewSource(127))
	grids := slices.Concat(gridsUpTo(6), randomGrids(100, 128), wrongGrids()[:40])
	for i, g := range grids {
		fill := "????"
		if plainIsGrid(g) {
			fill = randomFill(g, source)
		}
		empty, words, pattern := impl.EmptyFill(g), impl.WordsIn(g, fill), impl.SlotPattern(g, fill, 0)
		made, ok := impl.PutWord(g, fill, 0, "no")
		other := grids[len(grids)-1-i]
		for range 5 {
			impl.PutWord(other, impl.EmptyFill(other), 0, "at")
			impl.WordsIn(other, wouldBeFill(other, "a"))
			again, againOK := impl.PutWord(g, fill, 0, "no")
			same := impl.EmptyFill(g) == empty && slices.Equal(impl.WordsIn(g, fill), words) && impl.SlotPattern(g, fill, 0) == pattern
			if !same || again != made || againOK != ok {
				t.Errorf("what the functions return of %v and %q changes", short(g), fill)
			}
		}
	}
}
