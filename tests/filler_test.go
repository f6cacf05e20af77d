package tests

import (
	"fmt"
	"math"
	"math/rand"
	"runtime"
	"slices"
	"strings"
	"sync"
	"testing"
	"time"

	"loop.example/g03003/impl"
)

// plainOnce returns the words without those that are the same as an earlier one.
func plainOnce(words []string) []string {
	once := []string{}
	for i, word := range words {
		if !slices.Contains(words[:i], word) {
			once = append(once, word)
		}
	}
	return once
}

// patternsAt returns what the slots have in a fill, in order.
func patternsAt(placed []placedSlot, fill string) []string {
	patterns := []string{}
	for _, p := range placed {
		pattern := []byte{}
		for _, cell := range p.cells {
			pattern = append(pattern, fill[cell])
		}
		patterns = append(patterns, string(pattern))
	}
	return patterns
}

// agrees reports whether a fill has all letters of another one at their cells.
func agrees(full, fill string) bool {
	for cell := range len(fill) {
		if fill[cell] != '?' && fill[cell] != full[cell] {
			return false
		}
	}
	return len(full) == len(fill)
}

// areDifferentOf reports whether patterns are different ones of the words.
func areDifferentOf(patterns, words []string) bool {
	return !slices.ContainsFunc(patterns, func(p string) bool { return !slices.Contains(words, p) }) && len(plainOnce(patterns)) == len(patterns)
}

// plainIsFillOf reports whether a full fill of a valid grid completes a fill with different ones of the words.
func plainIsFillOf(g impl.Grid, fill, full string, words []string) bool {
	return plainIsFill(g, full) && !strings.Contains(full, "?") && agrees(full, fill) && areDifferentOf(plainPatterns(g, full), words)
}

// plainIsLone reports whether a cell of a grid is white and in no slot.
func plainIsLone(g impl.Grid, cell int) bool {
	return g.Cells[cell] == '.' && len(plainAt(g, cell)) == 0
}

// plainHasOpenLone reports whether a white cell in no slot has no letter.
func plainHasOpenLone(g impl.Grid, fill string) bool {
	for cell := range len(fill) {
		if fill[cell] == '?' && plainIsLone(g, cell) {
			return true
		}
	}
	return false
}

// placesOf returns the indices in the list of the words.
func placesOf(patterns, words []string) []int {
	places := []int{}
	for _, pattern := range patterns {
		places = append(places, slices.Index(words, pattern))
	}
	return places
}

// compareFills compares two full fills of a grid by their order.
func compareFills(g impl.Grid, a, b string, words []string) int {
	return slices.Compare(placesOf(plainPatterns(g, a), words), placesOf(plainPatterns(g, b), words))
}

// definedFills says what FillsOf should if there were no limit: it looks at each of all full fills, and sorts those that are right.
func definedFills(g impl.Grid, fill string, words, fulls []string) []string {
	right := []string{}
	if !plainIsFill(g, fill) || plainHasOpenLone(g, fill) {
		return right
	}
	placed, places := plainSlots(g), map[string][]int{}
	for _, full := range fulls {
		if !agrees(full, fill) {
			continue
		}
		if patterns := patternsAt(placed, full); areDifferentOf(patterns, words) {
			right = append(right, full)
			places[full] = placesOf(patterns, words)
		}
	}
	slices.SortFunc(right, func(a, b string) int { return slices.Compare(places[a], places[b]) })
	return right
}

// plainSearch appends to found the fills that complete a fill, slot by slot, and stops beyond MaxFills of them.
func plainSearch(placed []placedSlot, fill string, words []string, slot int, found []string) []string {
	if len(found) > impl.MaxFills {
		return found
	}
	patterns := patternsAt(placed, fill)
	if slot == len(patterns) {
		return append(found, fill)
	}
	for _, word := range words {
		if plainFits(patterns[slot], word) && !slices.Contains(patterns[:slot], word) {
			put := []byte(fill)
			for place, cell := range placed[slot].cells {
				put[cell] = word[place]
			}
			found = plainSearch(placed, string(put), words, slot+1, found)
		}
	}
	return found
}

// plainFills says what FillsOf should, but for the limits: one fill more than MaxFills where there are more.
func plainFills(g impl.Grid, fill string, words []string) []string {
	if !plainIsFill(g, fill) || plainHasOpenLone(g, fill) {
		return []string{}
	}
	return plainSearch(plainSlots(g), fill, plainOnce(words), 0, []string{})
}

// withLetterAlone returns a fill with a letter in each white cell that is in no slot.
func withLetterAlone(g impl.Grid, fill string, letter byte) string {
	for cell := range len(fill) {
		if plainIsLone(g, cell) {
			fill = withByte(fill, cell, letter)
		}
	}
	return fill
}

// inOtherOrder returns the words in another order, some of them twice or more often.
func inOtherOrder(words []string, source *rand.Rand) []string {
	listed := slices.Clone(words)
	for range source.Intn(1 + len(words)/2) {
		listed = append(listed, words[source.Intn(len(words))])
	}
	source.Shuffle(len(listed), func(i, k int) { listed[i], listed[k] = listed[k], listed[i] })
	return listed
}

// fromTexts returns fills without the ends of their rows.
func fromTexts(texts string) []string {
	return strings.Fields(strings.ReplaceAll(texts, "/", ""))
}

// checkFillsOf checks what FillsOf returns for one limit, if want are all full fills, or more than MaxFills of them.
func checkFillsOf(t *testing.T, g impl.Grid, fill string, words []string, most int, want []string) {
	t.Helper()
	want = want[:min(len(want), max(0, most))]
	if most > impl.MaxFills {
		want = nil
	}
	if got := impl.FillsOf(g, fill, words, most); !slices.Equal(got, want) {
		t.Errorf("FillsOf(%v, %q, %.300q, %d) is %q, not %q", short(g), shortFill(fill), words, most, got, want)
	}
}

// checkFills checks what all functions return of a fill, if want are all full fills, or more than MaxFills of them.
func checkFills(t *testing.T, g impl.Grid, fill string, words []string, want []string) {
	t.Helper()
	for _, most := range []int{-1, 0, 1, 2, len(want) - 1, len(want), len(want) + 1, impl.MaxFills - 1, impl.MaxFills, impl.MaxFills + 1} {
		checkFillsOf(t, g, fill, words, most, want)
	}
	first := ""
	if len(want) > 0 {
		first = want[0]
	}
	if got, ok := impl.FillGrid(g, fill, words); got != first || ok != (len(want) > 0) {
		t.Errorf("FillGrid(%v, %q, %.300q) is %q, %t, not %q", short(g), shortFill(fill), words, got, ok, first)
	}
	if got := impl.IsUniqueFill(g, fill, words); got != (len(want) == 1) {
		t.Errorf("IsUniqueFill(%v, %q, %.300q) is %t", short(g), shortFill(fill), words, got)
	}
}

const (
	ring      = ".../.#./..."
	ringWords = "tac arc era eat are ear"
)

var fillerCases = []struct{ text, fill, words, want string }{
	// Fills with no, some and all letters.
	{ring, "???/?#?/???", ringWords, "era/a#r/tac eat/r#a/arc"},
	{ring, "e??/?#?/???", ringWords, "era/a#r/tac eat/r#a/arc"},
	{ring, "eat/?#?/???", ringWords, "eat/r#a/arc"},
	{ring, "???/?#?/??c", ringWords, "era/a#r/tac eat/r#a/arc"},
	{ring, "???/?#a/???", ringWords, "eat/r#a/arc"},
	{ring, "???/?#?/a??", ringWords, "eat/r#a/arc"},
	{ring, "eat/r#?/arc", ringWords, "eat/r#a/arc"},
	{ring, "eat/r#a/arc", ringWords, "eat/r#a/arc"},
	{ring, "era/a#r/tac", ringWords, "era/a#r/tac"},
	// A letter, or some of them, that no word allows.
	{ring, "z??/?#?/???", ringWords, ""},
	{ring, "???/?#?/??z", ringWords, ""},
	{ring, "?z?/?#?/???", ringWords, ""},
	{ring, "???/z#?/???", ringWords, ""},
	{ring, "zzz/z#z/zzz", ringWords, ""},
	{ring, "eat/?#r/???", ringWords, ""},
	{ring, "era/r#?/???", ringWords, ""},
	// A fill that is full already, with a word that is not in the list: across, down, the first, the last.
	{ring, "eat/r#a/arc", "eat era tac arc", "eat/r#a/arc"},
	{ring, "eat/r#a/arc", "arc tac era eat", "eat/r#a/arc"},
	{ring, "eat/r#a/arc", "era tac arc", ""},
	{ring, "eat/r#a/arc", "eat tac arc", ""},
	{ring, "eat/r#a/arc", "eat era arc", ""},
	{ring, "eat/r#a/arc", "eat era tac", ""},
	{ring, "eat/r#a/arc", "", ""},
	{ring, "eat/r#a/arm", ringWords, ""},
	// A slot that is full already, in a fill that is not.
	{ring, "eat/?#?/???", "era tac arc", ""},
	{ring, "e?t/r#?/a??", "eat tac arc", ""},
	{"../##/..", "no/##/??", "at", ""},
	{"../##/..", "no/##/??", "at no", "no/##/at"},
	// The same word in two slots: of both directions, and of one.
	{ring, "???/?#?/???", "eve", ""},
	{ring, "eve/v#v/eve", "eve", ""},
	{ring, "eve/v#v/eve", "eve eve eve eve", ""},
	{ring, "???/?#?/???", "eat tea aba", ""},
	{"../.#", "??/?#", "no", ""},
	{"../.#", "no/o#", "no", ""},
	{"../.#", "??/?#", "no ne", "no/e# ne/o#"},
	{"#./..", "#?/??", "no", ""},
	{"#./..", "#?/??", "no go", "#n/go #g/no"},
	{"../##/..", "??/##/??", "no", ""},
	{"../##/..", "no/##/??", "no", ""},
	{"../##/..", "no/##/no", "no", ""},
	{"../##/..", "no/##/no", "no at", ""},
	{"../##/..", "??/##/??", "no at", "no/##/at at/##/no"},
	{".#./.#.", "?#?/?#?", "no", ""},
	{".#./.#.", "?#?/?#?", "no at", "n#a/o#t a#n/t#o"},
	{".#./.#.", "n#?/o#?", "no at", "n#a/o#t"},
	{".#./.#.", "?#n/?#?", "no at", "a#n/t#o"},
	{"../..", "??/??", "ab bc", ""},
	{"../..", "??/??", "aa", ""},
	{"../##/##/../##/..", "??/##/##/??/##/??", "no at", ""},
	{"../##/##/../##/..", "??/##/##/??/##/??", "to no at", "to/##/##/no/##/at to/##/##/at/##/no no/##/##/to/##/at no/##/##/at/##/to at/##/##/to/##/no at/##/##/no/##/to"},
	// The index in the list of the word of the first slot comes first, whatever its letters are.
	{"../##", "??/##", "zz at no aa", "zz/## at/## no/## aa/##"},
	{"../##", "?o/##", "no at to zz go", "no/## to/## go/##"},
	{"../.#", "??/?#", "no at ne an", "no/e# at/n# ne/o# an/t#"},
	{"../.#", "??/?#", "no nz na ne", "no/z# no/a# no/e# nz/o# nz/a# nz/e# na/o# na/z# na/e# ne/o# ne/z# ne/a#"},
	{"../.#", "n?/?#", "nb na nc", "nb/a# nb/c# na/b# na/c# nc/b# nc/a#"},
	{"../##/..", "??/##/??", "to at no", "to/##/at to/##/no at/##/to at/##/no no/##/to no/##/at"},
	{".#./.#.", "?#?/?#?", "to at no", "t#a/o#t t#n/o#o a#t/t#o a#n/t#o n#t/o#o n#a/o#t"},
	// The slots count in their order, not in that of the cells: 1 down before 3 across.
	{"../..", "aa/??", "yz xz aa ax ay az", "aa/xz aa/yz"},
	{"../..", "aa/??", "xz yz aa ay ax az", "aa/yz aa/xz"},
	{"../..", "??/??", "at ao to on oo", "at/oo ao/to"},
	{"../..", "??/??", "ao at to on oo", "ao/to at/oo"},
	{"../..", "??/??", "oo on to ao at", "ao/to at/oo"},
	// The same word twice and more often, next to each other and far apart: only the first one counts.
	{"../##", "??/##", "no no", "no/##"},
	{"../##", "??/##", "no at no", "no/## at/##"},
	{"../##", "??/##", "no at at no no at", "no/## at/##"},
	{"../.#", "??/?#", "no no", ""},
	{"../.#", "??/?#", "ne no an ne", "ne/o# no/e#"},
	{"../.#", "??/?#", "no no at ne no an at", "no/e# at/n# ne/o# an/t#"},
	{"../.#", "??/?#", "no ne ne no", "no/e# ne/o#"},
	{"../##/..", "??/##/??", "no no", ""},
	{"../##/..", "??/##/??", "no at no", "no/##/at at/##/no"},
	{"../##/..", "??/##/??", "at no no at at no", "at/##/no no/##/at"},
	{"../..", "??/??", "at to ta at ot oo", "to/at ta/ot"},
	{ring, "???/?#?/???", "tac tac arc era eat era eat are ear tac eat", "era/a#r/tac eat/r#a/arc"},
	{ring, "???/?#?/???", "eat tac arc era eat are ear era eat", "eat/r#a/arc era/a#r/tac"},
	{ring, "eat/r#a/arc", "eat eat era tac arc arc", "eat/r#a/arc"},
	{"../##", "no/##", "no no no", "no/##"},
	// A slot that the crossing ones fill wholly, whose word is in the list and is not.
	{"../..", "??/??", "ab cd ac bd", "ab/cd ac/bd"},
	{"../..", "??/??", "bd ac cd ab", "ac/bd ab/cd"},
	{"../..", "??/??", "ab cd ac", ""},
	{"../..", "??/??", "ab cd bd", ""},
	{"../..", "??/??", "ab ac bd", ""},
	{"../..", "??/??", "cd ac bd", ""},
	{".../...", "???/???", "cat ado ca ad to", "cat/ado"},
	{".../...", "???/???", "to ad ca ado cat", "cat/ado"},
	{".../...", "???/???", "cat ado ca ad", ""},
	{".../...", "???/???", "cat ado ca to", ""},
	{".../...", "cat/???", "ado ca ad to", ""},
	{".../...", "c??/?d?", "cat ado ca ad to", "cat/ado"},
	{"../../..", "??/??/??", "ca cat ado ad to", "ca/ad/to"},
	{"../../..", "??/??/??", "ca cat ado ad at", ""},
	// White cells in no slot keep their letters, and need some.
	{".#/##", "q#/##", "", "q#/##"},
	{".#/##", "q#/##", "q", "q#/##"},
	{".#/##", "q#/##", "no", "q#/##"},
	{".#/##", "?#/##", "", ""},
	{".#/##", "?#/##", "q", ""},
	{".#/#.", "a#/#b", "", "a#/#b"},
	{".#/#.", "a#/#a", "", "a#/#a"},
	{".#/#.", "a#/#?", "a b", ""},
	{".#/#.", "?#/#b", "a b", ""},
	{"..#/##.", "??#/##q", "no on", "no#/##q on#/##q"},
	{"..#/##.", "n?#/##q", "no on", "no#/##q"},
	{"..#/##.", "no#/##q", "no on", "no#/##q"},
	{"..#/##.", "no#/##q", "on", ""},
	{"..#/##.", "??#/##?", "no on q", ""},
	{"..#/##.", "no#/##?", "no on q", ""},
	{".#./#.#/#.#", "a#b/#?#/#?#", "no on", "a#b/#n#/#o# a#b/#o#/#n#"},
	{".#./#.#/#.#", "a#?/#?#/#?#", "no on", ""},
	{".#./#.#/#.#", "?#b/#n#/#o#", "no on", ""},
	// No slot, and no white cell.
	{"##/##", "##/##", "", "##/##"},
	{"##/##", "##/##", "no ne", "##/##"},
	{"######/######/######/######/######/######", "######/######/######/######/######/######", "", "######/######/######/######/######/######"},
	// Slots of several lengths, and words of others.
	{"#../...", "#??/???", "no ne ot wet", "#no/wet"},
	{"#../...", "#??/???", "a wet ot tree ne no abcdefgh crossing", "#no/wet"},
	{"#../...", "#??/???", "no ne ot", ""},
	{"#../...", "#??/???", "wet", ""},
	{"../##", "??/##", "n", ""},
	{"../##", "??/##", "not nottoday", ""},
	{"....../#.##.#", "??????/#?##?#", "ge orange ra", "orange/#a##e#"},
	{"....../#.##.#", "??????/#?##?#", "ge orange ra or rang rangeo anger", "orange/#a##e#"},
	// Strings that are no words stand nowhere.
	{"../##", "??/##", "NO No nO n? ?? ?o n1 n. nö é ## .. // no", "no/##"},
	{"../##", "??/##", "?? NO", ""},
	{"../##", "n?/##", "n?", ""},
	{"##/##", "##/##", "## NO", "##/##"},
	// What is no fill.
	{"../.#", "??/??", "no ne", ""},
	{"../.#", "??/?", "no ne", ""},
	{"../.#", "??/?#?", "no ne", ""},
	{"../.#", "??/?##", "no ne", ""},
	{"../.#", "", "no ne", ""},
	{"../.#", "??/#?", "no ne", ""},
	{"../.#", "no/ee", "no ne", ""},
	{"../.#", "NO/E#", "no ne", ""},
	{"../.#", "../.#", "no ne", ""},
	{"../.#", "#?/?#", "no ne", ""},
	{"##/##", "", "", ""},
	{"##/##", "###", "", ""},
	{"##/##", "#####", "", ""},
	{"##/##", "a###", "", ""},
	{".#/##", "aaaa", "", ""},
	// What is no grid.
	{"..", "??", "no", ""},
	{"..", "no", "no", ""},
	{"", "", "", ""},
}

func TestFillerCases(t *testing.T) {
	for _, c := range fillerCases {
		g, _ := plainParse(c.text)
		fill, words, want := strings.ReplaceAll(c.fill, "/", ""), strings.Fields(c.words), fromTexts(c.want)
		checkFills(t, g, fill, words, want)
		if plain := plainFills(g, fill, words); !slices.Equal(plain, want) {
			t.Errorf("the fills of %s with %q should be %q", c.fill, words, plain)
		}
	}
}

// What is in the list beside the words changes nothing, wherever it stands.
func TestFillerPassesOverWhatIsNoWord(t *testing.T) {
	others := slices.Concat(noWords(), []string{"", "", "??", "???", "e??", "E??", "ERA", "eRa", "era ", " era", "e#a", "####", "quite", "a", "z", "longword"})
	for _, c := range fillerCases {
		g, _ := plainParse(c.text)
		fill, words, want := strings.ReplaceAll(c.fill, "/", ""), strings.Fields(c.words), fromTexts(c.want)
		mixed := slices.Clone(others)
		for i, word := range words {
			at := (i + 1) * len(others) / (len(words) + 1)
			mixed = slices.Insert(mixed, at+i, word, others[i])
		}
		checkFillsOf(t, g, fill, slices.Concat(others, words), impl.MaxFills, want)
		checkFillsOf(t, g, fill, slices.Concat(words, others), impl.MaxFills, want)
		checkFillsOf(t, g, fill, mixed, impl.MaxFills, want)
	}
}

func TestFillerOfNoWords(t *testing.T) {
	for i, g := range slices.Concat(gridsUpTo(6), gridsWithOneCell(), randomGrids(100, 171)) {
		if i%4 > 0 {
			continue
		}
		for _, fill := range []string{plainEmpty(g), withLetterAlone(g, plainEmpty(g), 'q'), fullFill(g), fullFill(g) + "a", ""} {
			want := []string{}
			if len(plainSlots(g)) == 0 && plainIsFill(g, fill) && !strings.Contains(fill, "?") {
				want = []string{fill}
			}
			for _, words := range [][]string{nil, {}, {""}, {"", ""}, strangeStrings()} {
				checkFills(t, g, fill, words, want)
			}
		}
	}
}

// twoLetterWords returns as many words for slots of two cells, in no order of their letters.
func twoLetterWords(count int) []string {
	words := []string{}
	for i := range count {
		words = append(words, string([]byte{byte('a' + i*7%26), byte('a' + (i*11+i/26)%26)}))
	}
	return words
}

// A slot alone has just as many fills as there are words for it.
func TestFillsOfGoesByMost(t *testing.T) {
	g, _ := plainParse("../##")
	for count := range 40 {
		words := twoLetterWords(count)
		want := []string{}
		for _, word := range words {
			want = append(want, word+"##")
		}
		if len(plainOnce(words)) != count {
			t.Fatalf("%q are not %d words", words, count)
		}
		checkFills(t, g, "??##", words, want)
		checkFills(t, g, "??##", slices.Concat(words, words), want)
		for _, most := range slices.Concat(edgeInts(), []int{28, 29, 30, 31, 32, 60, 100, 1000, 30 + 1<<32, 1 - 1<<32, math.MinInt + 30, math.MaxInt - 30}) {
			checkFillsOf(t, g, "??##", words, most, want)
		}
		for most := 1; most <= 30; most++ {
			if got := len(impl.FillsOf(g, "??##", words, most)); got != min(most, count) {
				t.Errorf("of %d fills, the first %d are %d", count, most, got)
			}
		}
	}
}

func TestMaxFills(t *testing.T) {
	if impl.MaxFills != 30 {
		t.Errorf("MaxFills is %d", impl.MaxFills)
	}
	// Two slots with 6 words have just MaxFills fills, those with 7 words more.
	g, _ := plainParse("../##/..")
	for _, count := range []int{5, 6, 7} {
		words := twoLetterWords(count)
		want := []string{}
		for _, first := range words {
			for _, second := range words {
				if first != second {
					want = append(want, first+"##"+second)
				}
			}
		}
		checkFills(t, g, "??##??", words, want)
		checkFills(t, g, "??##??", slices.Concat(words, reversedWords(words)), want)
	}
}

// reversedWords returns the words in the opposite order.
func reversedWords(words []string) []string {
	turned := slices.Clone(words)
	slices.Reverse(turned)
	return turned
}

// smallGrids are grids all of whose full fills over a few letters can be looked at.
func smallGrids(seed int64) []impl.Grid {
	source := rand.New(rand.NewSource(seed))
	grids := gridsUpTo(6)
	for _, side := range [][2]int{{3, 3}, {2, 4}, {4, 2}, {3, 4}, {4, 3}, {2, 5}, {5, 2}, {2, 6}, {6, 2}} {
		for range 12 {
			cells := []byte(strings.Repeat("#", side[0]*side[1]))
			for _, cell := range source.Perm(len(cells))[:3+source.Intn(6)] {
				cells[cell] = '.'
			}
			grids = append(grids, gridOf(side[0], side[1], string(cells)))
		}
	}
	return grids
}

// someFillsOver returns fills with none, some and all letters, and with letters in all white cells that are in no slot.
func someFillsOver(g impl.Grid, letters string, source *rand.Rand) []string {
	some := someFillOver(g, letters, source)
	return []string{plainEmpty(g), withLetterAlone(g, plainEmpty(g), letters[0]), some, withLetterAlone(g, some, letters[0]), fullFillOver(g, letters, source)}
}

// The fills are those of all full fills that the definition allows, in the order that it names.
func TestFillsOfAmongAllFullFills(t *testing.T) {
	source := rand.New(rand.NewSource(172))
	found := map[int]int{}
	for _, g := range smallGrids(173) {
		letters := "abc"
		if strings.Count(g.Cells, ".") > 6 {
			letters = "ab"
		}
		all, fulls := wordsOver(letters, plainLongest(g)+1), fillsOver(g, letters)
		for _, share := range []int{2, 5, 9} {
			words := []string{"B", "a?", ""}
			for _, word := range all {
				if source.Intn(10) < share {
					words = append(words, word)
				}
			}
			words = inOtherOrder(words, source)
			for _, fill := range someFillsOver(g, letters, source) {
				want := definedFills(g, fill, words, fulls)
				checkFills(t, g, fill, words, want)
				if plain := plainFills(g, fill, words); !slices.Equal(plain, want[:min(len(want), impl.MaxFills+1)]) {
					t.Errorf("the plain search finds %q in %v and %q, not %q", plain, g, fill, want)
				}
				found[min(len(want), impl.MaxFills+1)]++
			}
		}
	}
	for _, count := range []int{0, 1, 2, 3, impl.MaxFills + 1} {
		if found[count] < 20 {
			t.Errorf("only %d of the fills have %d full fills", found[count], count)
		}
	}
}

// wordsOfFills returns the words of some full fills of a grid, in another order, and other words.
func wordsOfFills(g impl.Grid, letters string, source *rand.Rand) (full string, words []string) {
	for range 1 + source.Intn(3) {
		full = fullFillOver(g, letters, source)
		words = append(words, plainPatterns(g, full)...)
	}
	return full, inOtherOrder(append(words, "aa", "ab", "aba", "bab"), source)
}

func TestFillerOfManyGrids(t *testing.T) {
	testFillsOfGrids(t, "abcdefghijkl", randomGrids(300, 174), 175)
	testFillsOfGrids(t, "abcd", randomGrids(300, 176), 177)
	fine := []impl.Grid{}
	for i, g := range fineGrids() {
		if i%4 == 0 {
			fine = append(fine, g)
		}
	}
	testFillsOfGrids(t, "abcdefghijkl", fine, 178)
}

// testFillsOfGrids compares the fills of grids with those that a plain search finds.
func testFillsOfGrids(t *testing.T, letters string, grids []impl.Grid, seed int64) {
	t.Helper()
	source := rand.New(rand.NewSource(seed))
	for _, g := range grids {
		full, words := wordsOfFills(g, letters, source)
		fill := withLetterAlone(g, opened(full, source), 'q')
		for cell := range len(fill) {
			if g.Cells[cell] == '#' {
				fill = withByte(fill, cell, '#')
			}
		}
		checkFills(t, g, fill, words, plainFills(g, fill, words))
		checkFills(t, g, full, words, plainFills(g, full, words))
	}
}

// Each of the fills is right, and each one's place in the order is behind that of the one before.
func TestFillsAreRightAndEachIsThereOnce(t *testing.T) {
	source := rand.New(rand.NewSource(179))
	for i, g := range slices.Concat(fineGrids(), randomGrids(200, 180)) {
		letters := []string{"ab", "abc", "abcdef"}[i%3]
		full, words := wordsOfFills(g, letters, source)
		words = slices.Concat(words, wordsOver("ab", 3), words)
		fill := withLetterAlone(g, plainEmpty(g), 'q')
		fills := impl.FillsOf(g, fill, words, impl.MaxFills)
		for k, f := range fills {
			if !plainIsFillOf(g, fill, f, words) {
				t.Errorf("%q is no fill of %v with %q", f, g, words)
			}
			if k > 0 && compareFills(g, fills[k-1], f, words) >= 0 {
				t.Errorf("in the fills of %v with %q, %q comes before %q", g, words, fills[k-1], f)
			}
		}
		right := withLetterAlone(g, full, 'q')
		if plainIsFillOf(g, fill, right, words) && len(fills) < impl.MaxFills && !slices.Contains(fills, right) {
			t.Errorf("the fills of %v with %q are %q, without %q", g, words, fills, right)
		}
	}
}

// With one letter less than a full fill, there is a fill for each letter that makes words; with another letter more, there is none of the others.
func TestFillsOfOneOpenCell(t *testing.T) {
	source := rand.New(rand.NewSource(181))
	for _, g := range slices.Concat(gridsUpTo(6), randomGrids(60, 182)) {
		full, words := wordsOfFills(g, "abcdefgh", source)
		for cell := range len(full) {
			if g.Cells[cell] == '#' {
				continue
			}
			fill, want := withByte(full, cell, '?'), []string{}
			for letter := byte('a'); letter <= 'z' && !plainIsLone(g, cell); letter++ {
				if f := withByte(full, cell, letter); plainIsFillOf(g, full[:cell]+"?"+full[cell+1:], f, words) {
					want = append(want, f)
				}
			}
			slices.SortFunc(want, func(a, b string) int { return compareFills(g, a, b, words) })
			checkFills(t, g, fill, words, want)
		}
	}
}

func TestFillerOfWrongGrids(t *testing.T) {
	words := []string{"aa", "ab", "ba", "bb", "aaa", "aaaaaa", "", "??"}
	for _, g := range wrongGrids() {
		for _, fill := range []string{"", "????", "aabb", wouldBeFill(g, "?"), wouldBeFill(g, "a"), g.Cells} {
			for _, list := range [][]string{words, nil} {
				checkFills(t, g, fill, list, nil)
			}
		}
	}
	checkFills(t, impl.Grid{}, "", nil, nil)
}

func TestFillerOfWhatIsNoFill(t *testing.T) {
	words := wordsOver("ab", 6)
	for _, g := range slices.Concat(gridsUpTo(4), gridsWithOneCell()[:60], randomGrids(40, 183)) {
		full := fullFill(g)
		for _, fill := range []string{"", full[1:], full + "a", full + "?", full + "#", "." + full[1:], "A" + full[1:], full[:len(full)-1] + "\xff", full + full, g.Cells + "#", strings.Repeat("?", 1000)} {
			checkFills(t, g, fill, words, nil)
		}
		for cell := range len(full) {
			wrong := map[byte]byte{'#': 'a', '.': '#'}[g.Cells[cell]]
			checkFills(t, g, withByte(full, cell, wrong), words, nil)
		}
	}
}

func checkRepeats(t *testing.T, words []string, want int) {
	t.Helper()
	if got := impl.RepeatsIn(words); got != want {
		t.Errorf("RepeatsIn(%.200q) is %d, not %d", words, got, want)
	}
}

func TestRepeatsIn(t *testing.T) {
	cases := []struct {
		words []string
		want  int
	}{
		{nil, 0},
		{[]string{}, 0},
		{[]string{"a"}, 0},
		{[]string{"a", "a"}, 1},
		{[]string{"a", "b"}, 0},
		{[]string{"a", "b", "a", "a"}, 2},
		{[]string{"a", "b", "b", "a"}, 2},
		{[]string{"b", "a", "a", "a"}, 2},
		{[]string{"a", "a", "b", "b", "c", "c"}, 3},
		{[]string{"a", "b", "c", "a", "b", "c", "a", "b", "c"}, 6},
		{[]string{"a", "aa", "aaa", "aaaa"}, 0},
		{[]string{"cat", "act", "tac"}, 0},
		// Strings that are no words count too, and are the same only if all of their bytes are.
		{[]string{""}, 0},
		{[]string{"", ""}, 1},
		{[]string{"", "", ""}, 2},
		{[]string{"cat", "Cat", "CAT", "cat "}, 0},
		{[]string{"Cat", "cat", "Cat"}, 1},
		{[]string{"?", "?", "??"}, 1},
		{[]string{"\xff", "\xfe", "\ufffd", "\xff"}, 1},
		{[]string{"é", "e\u0301", "é"}, 1},
		{[]string{"a\x00", "a", "a\x00b"}, 0},
		{[]string{"crosswords", "crosswords", "crossword"}, 1},
		{[]string{strings.Repeat("a", 1000), strings.Repeat("a", 1000), strings.Repeat("a", 1001)}, 1},
	}
	for _, c := range cases {
		checkRepeats(t, c.words, c.want)
	}
	for _, count := range []int{1, 2, 3, 40, 256, 1000} {
		checkRepeats(t, slices.Repeat([]string{"same"}, count), count-1)
		checkRepeats(t, make([]string, count), count-1)
		checkRepeats(t, slices.Repeat(someWords(), count), len(someWords())*(count-1))
	}
	checkRepeats(t, someWords(), 0)
	checkRepeats(t, strangeStrings(), 0)
	checkRepeats(t, wordsOver("abcdefgh", 4), 0)
	for _, list := range [][]string{randomWords(300), slices.Concat(noWords(), noWords()), slices.Concat(wordsOver("ab", 4), randomWords(50))} {
		checkRepeats(t, list, len(list)-len(plainOnce(list)))
	}
}

// In a fill that FillsOf returns no word is there twice.
func TestNoWordOfAFillRepeats(t *testing.T) {
	words := slices.Concat(wordsOver("ab", 6), wordsOver("ab", 2))
	for _, g := range slices.Concat(gridsUpTo(8), randomGrids(100, 184)) {
		for _, f := range impl.FillsOf(g, withLetterAlone(g, plainEmpty(g), 'a'), words, impl.MaxFills) {
			checkRepeats(t, impl.WordsIn(g, f), 0)
		}
	}
}

func TestFillerKeepsItsMemory(t *testing.T) {
	source := rand.New(rand.NewSource(185))
	for _, g := range slices.Concat(gridsUpTo(6), randomGrids(100, 186), wrongGrids()[:20]) {
		fill, listed := "????", []string{"no", "ne", "no"}
		if plainIsGrid(g) {
			_, words := wordsOfFills(g, "abcdef", source)
			fill, listed = withLetterAlone(g, plainEmpty(g), 'q'), words
		}
		whole := append(slices.Clone(listed), "one", "no", "six")
		words := whole[:len(listed)]
		before := slices.Clone(whole)
		first, second := impl.FillsOf(g, fill, words, 30), impl.FillsOf(g, fill, words, 30)
		kept := slices.Clone(second)
		overwriteStrings(first)
		impl.FillGrid(g, fill, words)
		impl.IsUniqueFill(g, fill, words)
		impl.RepeatsIn(words)
		if !slices.Equal(whole, before) {
			t.Errorf("the list %q becomes %q", before, whole)
		}
		if !slices.Equal(second, kept) || !slices.Equal(impl.FillsOf(g, fill, words, 30), kept) {
			t.Errorf("a change of one result of FillsOf(%v, %q, %q) makes another one %q", short(g), fill, words, second)
		}
		overwriteStrings(whole)
		if !slices.Equal(second, kept) {
			t.Errorf("a change of the list makes the fills of %v %q", short(g), second)
		}
	}
}

func TestFillerIsTheSameEachTime(t *testing.T) {
	source := rand.New(rand.NewSource(187))
	grids := slices.Concat(gridsUpTo(4), randomGrids(60, 188))
	for i, g := range grids {
		_, words := wordsOfFills(g, "abc", source)
		fill := withLetterAlone(g, plainEmpty(g), 'a')
		fills := impl.FillsOf(g, fill, words, 30)
		first, ok := impl.FillGrid(g, fill, words)
		unique, repeats := impl.IsUniqueFill(g, fill, words), impl.RepeatsIn(words)
		other := grids[len(grids)-1-i]
		for range 5 {
			impl.FillsOf(other, plainEmpty(other), words, 7)
			impl.FillGrid(other, withLetterAlone(other, plainEmpty(other), 'b'), words)
			again, againOK := impl.FillGrid(g, fill, words)
			if !slices.Equal(impl.FillsOf(g, fill, words, 30), fills) || again != first || againOK != ok || impl.IsUniqueFill(g, fill, words) != unique || impl.RepeatsIn(words) != repeats {
				t.Errorf("what the functions return of %v, %q and %q changes", g, fill, words)
			}
		}
	}
}

// Calls with the same arguments at the same time do not get into each other's way.
func TestFillerCallsAtTheSameTime(t *testing.T) {
	g, _ := plainParse("..../..../..../....")
	fill, words := plainEmpty(g), wordsOver("ab", 4)
	want := impl.FillsOf(g, fill, words, 30)
	if len(want) != 30 {
		t.Fatalf("there are just %d fills", len(want))
	}
	var calls sync.WaitGroup
	for i := range 16 {
		calls.Go(func() {
			if got := impl.FillsOf(g, fill, words, 30-i); !slices.Equal(got, want[:30-i]) {
				t.Errorf("the first %d fills are %q, not %q", 30-i, got, want[:30-i])
			}
		})
	}
	calls.Wait()
}

// Nothing that a call starts goes on after it, whether it finds all fills, the first ones or none.
func TestNothingGoesOnAfterTheFiller(t *testing.T) {
	before := runtime.NumGoroutine()
	for _, c := range fillerCases {
		g, _ := plainParse(c.text)
		for most := range 4 {
			impl.FillsOf(g, strings.ReplaceAll(c.fill, "/", ""), strings.Fields(c.words), most)
		}
		impl.FillGrid(g, strings.ReplaceAll(c.fill, "/", ""), strings.Fields(c.words))
		impl.IsUniqueFill(g, strings.ReplaceAll(c.fill, "/", ""), strings.Fields(c.words))
	}
	open, _ := plainParse("....../....../......")
	for most := 1; most <= 30; most++ {
		impl.FillsOf(open, plainEmpty(open), slices.Concat(wordsOver("ab", 6), wordsOver("ab", 3)), most)
	}
	// The last ones may not have left the scheduler yet.
	for range 1000 {
		if runtime.NumGoroutine() <= before {
			return
		}
		time.Sleep(time.Millisecond)
	}
	t.Errorf("there were %d goroutines, and now there are %d", before, runtime.NumGoroutine())
}

// These grids have far too many ways to write some words into them for all of these ways to be tried.
func TestFillerEndsSoon(t *testing.T) {
	blocks := "..#../..#../#####/..#../..#.."
	stripes := "..#..#/#..#../.#..#./..#..#/#..#../.#..#."
	cases := []struct {
		text  string
		words []string
		none  bool
	}{
		// Fewer words than slots.
		{".#.#../.#.###/#.#.#./#.#.#./.#.#.#/.#.#.#", twoLetterWords(8), true},
		{stripes, wordsOver("abcd", 2)[4:], true},
		{stripes, twoLetterWords(19), true},
		{blocks, wordsOver("abcd", 2)[4:19], true},
		// Enough words, but too few for the slots of two cells.
		{blocks, slices.Concat(wordsOver("abcd", 2)[4:19], wordsOver("abcd", 3)[20:]), true},
		// Many fills of one part, and none of the last one.
		{".../.../.../###/..#/..#", slices.Concat(wordsOver("abcdef", 3)[42:], strings.Fields("pq qp rs sr")), true},
		// Many fills of the middle part, and none of the last one with the words that the first slot may have first.
		{"..#.../###.../###.../######/..####/..####", slices.Concat(strings.Fields("ab cd ac bd pq qp rs sr"), wordsOver("abcdef", 3)[42:]), false},
		// Many fills, or many words.
		{blocks, wordsOver("abcd", 2)[4:], false},
		{stripes, wordsOver("abcdefghijklmnopqrstuvwxyz", 2), false},
		{"....../....../....../....../....../......", wordsOver("abc", 6), false},
		{"....../....../....../....../....../......", wordsOver("ab", 6), false},
		{".../.../...", wordsOver("abcdefghijklmnopqrstuvwxyz", 3), false},
		{"..../.##./....", slices.Repeat(wordsOver("abcdefgh", 4), 5), false},
	}
	for i, c := range cases {
		g, _ := plainParse(c.text)
		fill := withLetterAlone(g, plainEmpty(g), 'q')
		ended := make(chan []string, 1)
		go func() { ended <- impl.FillsOf(g, fill, c.words, 30) }()
		select {
		case fills := <-ended:
			if want := map[bool]int{true: 0, false: 30}[c.none]; len(fills) != want {
				t.Errorf("case %d: %s has %d fills, not %d", i, c.text, len(fills), want)
			}
			for _, f := range fills {
				if !plainIsFillOf(g, fill, f, c.words) {
					t.Errorf("case %d: %q is no fill of %s", i, f, c.text)
				}
			}
		case <-time.After(2 * time.Minute):
			t.Fatalf("case %d: the search in %s does not end", i, c.text)
		}
	}
}

func ExampleFillsOf() {
	g, _ := impl.ParseGrid(".../.#./...")
	words := []string{"tac", "arc", "era", "eat", "are", "ear"}
	fmt.Println(impl.FillsOf(g, impl.EmptyFill(g), words, 30))
	// Output: [eraa#rtac eatr#aarc]
}
