package tests

import (
	"math/rand"
	"slices"
	"strings"
	"testing"

	"loop.example/g03003/impl"
)

// domainsOf reads domains, which are separated by "/": "-" for one without words, or words with a space between them. The empty text has no domain.
func domainsOf(text string) [][]string {
	domains := [][]string{}
	if text == "" {
		return domains
	}
	for _, part := range strings.Split(text, "/") {
		domains = append(domains, strings.Fields(strings.Trim(part, "-")))
	}
	return domains
}

// sameDomains reports whether two lists of domains have the same words in the same order.
func sameDomains(a, b [][]string) bool {
	return slices.EqualFunc(a, b, func(v, w []string) bool { return slices.Equal(v, w) })
}

// fitsLength reports whether word is a word of this length.
func fitsLength(word string, length int) bool {
	return plainFits(strings.Repeat("?", length), word)
}

// plainDomains says what DomainsOf should.
func plainDomains(g impl.Grid, fill string, words []string) [][]string {
	domains := [][]string{}
	for _, pattern := range plainPatterns(g, fill) {
		fitting := []string{}
		for _, word := range words {
			if plainFits(pattern, word) {
				fitting = append(fitting, word)
			}
		}
		domains = append(domains, fitting)
	}
	return domains
}

// plainSupport says what Support should, cell by cell; the slots of the grid are given.
func plainSupport(placed []placedSlot, domains [][]string, slot int, word string) bool {
	if slot < 0 || slot >= len(placed) || len(domains) != len(placed) || !fitsLength(word, len(placed[slot].cells)) {
		return false
	}
	for at, cell := range placed[slot].cells {
		for other, p := range placed {
			place := slices.Index(p.cells, cell)
			has := func(w string) bool { return place < len(w) && w[place] == word[at] }
			if other != slot && place >= 0 && !slices.ContainsFunc(domains[other], has) {
				return false
			}
		}
	}
	return true
}

// copyDomains returns a copy of domains.
func copyDomains(domains [][]string) [][]string {
	copied := [][]string{}
	for _, words := range domains {
		copied = append(copied, slices.Clone(words))
	}
	return copied
}

// plainPrune says what Prune should: it strikes in rounds, in each of which all words without support go at once. It returns the number of rounds too.
func plainPrune(placed []placedSlot, domains [][]string) ([][]string, int) {
	if len(domains) != len(placed) {
		return copyDomains(domains), 0
	}
	for rounds := 0; ; rounds++ {
		left := copyDomains(domains)
		for slot := range left {
			left[slot] = slices.DeleteFunc(left[slot], func(word string) bool { return !plainSupport(placed, domains, slot, word) })
		}
		if sameDomains(left, domains) {
			return left, rounds
		}
		domains = left
	}
}

// plainForced says what Forced should.
func plainForced(g impl.Grid, fill string, domains [][]string) (string, bool) {
	if len(domains) != len(plainSlots(g)) {
		return fill, false
	}
	forced := fill
	for slot, words := range domains {
		if len(words) == 1 {
			written, ok := plainPut(g, forced, slot, words[0])
			if !ok {
				return fill, false
			}
			forced = written
		}
	}
	return forced, true
}

// canComplete reports whether the slots of order can have words of their domains, beside the letters that some cells have.
func canComplete(placed []placedSlot, domains [][]string, order []int, letters [36]byte) bool {
	if len(order) == 0 {
		return true
	}
	cells := placed[order[0]].cells
	for _, word := range domains[order[0]] {
		fits := fitsLength(word, len(cells))
		written := letters
		for place := 0; fits && place < len(cells); place++ {
			fits = letters[cells[place]] == 0 || letters[cells[place]] == word[place]
			written[cells[place]] = word[place]
		}
		if fits && canComplete(placed, domains, order[1:], written) {
			return true
		}
	}
	return false
}

// isInSolution reports whether a slot has a word in a full fill whose slots all have words of their domains.
func isInSolution(placed []placedSlot, domains [][]string, slot int, word string) bool {
	alone := slices.Clone(domains)
	alone[slot] = []string{word}
	order := make([]int, len(placed))
	for i := range order {
		order[i] = i
	}
	slices.SortStableFunc(order, func(a, b int) int { return len(alone[a]) - len(alone[b]) })
	return canComplete(placed, alone, order, [36]byte{})
}

// fullFillOver returns a fill of a valid grid with one of the letters in each white cell.
func fullFillOver(g impl.Grid, letters string, source *rand.Rand) string {
	fill := []byte(plainEmpty(g))
	for cell, b := range fill {
		if b == '?' {
			fill[cell] = letters[source.Intn(len(letters))]
		}
	}
	return string(fill)
}

// someFillOver returns a fill of a valid grid with one of the letters in all, some or none of the white cells.
func someFillOver(g impl.Grid, letters string, source *rand.Rand) string {
	fill := opened(fullFillOver(g, letters, source), source)
	for cell := range len(fill) {
		if g.Cells[cell] == '#' {
			fill = withByte(fill, cell, '#')
		}
	}
	return fill
}

// randomDomains returns domains of few words for the slots of a grid. Most of them have the word of one full fill; others are a letter away from it, are any words, or no words of that length.
func randomDomains(g impl.Grid, source *rand.Rand) [][]string {
	letters := "abcdefgh"[:2+source.Intn(4)]
	strange := strangeStrings()
	domains := [][]string{}
	for _, word := range plainPatterns(g, fullFillOver(g, letters, source)) {
		words := []string{}
		for range source.Intn(5) {
			other := withByte(word, source.Intn(len(word)), letters[source.Intn(len(letters))])
			switch source.Intn(8) {
			case 0, 1, 2:
				other = withByte(other, source.Intn(len(word)), letters[source.Intn(len(letters))])
			case 3:
				other = word[1:]
			case 4:
				other += other[:1]
			case 5:
				other = strange[source.Intn(len(strange))]
			}
			words = append(words, other)
		}
		if source.Intn(12) > 0 {
			words = slices.Insert(words, source.Intn(len(words)+1), word)
		}
		domains = append(domains, words)
	}
	return domains
}

// domainGrids are grids on which domains are pruned: of many kinds, and some of the right form.
func domainGrids(count int, seed int64) []impl.Grid {
	grids := slices.Concat(gridsUpTo(6), randomGrids(count, seed))
	for i, g := range slices.Concat(gridsWithOneCell(), fineGrids()) {
		if i%5 == 0 {
			grids = append(grids, g)
		}
	}
	return grids
}

func checkDomainsOf(t *testing.T, g impl.Grid, fill string, words []string, want [][]string) {
	t.Helper()
	if got := impl.DomainsOf(g, fill, words); !sameDomains(got, want) {
		t.Errorf("DomainsOf(%v, %q, %.200q) is %q, not %q", short(g), shortFill(fill), words, got, want)
	}
}

func checkSupport(t *testing.T, g impl.Grid, domains [][]string, slot int, word string, want bool) {
	t.Helper()
	if got := impl.Support(g, domains, slot, word); got != want {
		t.Errorf("Support(%v, %q, %d, %.40q) is %t", short(g), domains, slot, word, got)
	}
}

// checkPrune checks what Prune, IsDead and CountChoices make of domains, and that pruning once more changes nothing.
func checkPrune(t *testing.T, g impl.Grid, domains, want [][]string) {
	t.Helper()
	got := impl.Prune(g, domains)
	if !sameDomains(got, want) {
		t.Fatalf("Prune(%v, %q) is %q, not %q", short(g), domains, got, want)
	}
	if again := impl.Prune(g, got); !sameDomains(again, got) {
		t.Errorf("Prune(%v, %q), which was pruned, is %q", short(g), got, again)
	}
	for _, d := range [][][]string{domains, got} {
		count, dead := 0, false
		for _, words := range d {
			count, dead = count+len(words), dead || len(words) == 0
		}
		if impl.CountChoices(d) != count || impl.IsDead(d) != dead {
			t.Errorf("of %q, CountChoices is %d and IsDead %t", d, impl.CountChoices(d), impl.IsDead(d))
		}
	}
}

// checkCopied checks that Prune returns domains as they are.
func checkCopied(t *testing.T, g impl.Grid, domains [][]string) {
	t.Helper()
	checkPrune(t, g, domains, domains)
}

func checkForced(t *testing.T, g impl.Grid, fill string, domains [][]string, want string, ok bool) {
	t.Helper()
	got, gotOK := impl.Forced(g, fill, domains)
	if got != want || gotOK != ok {
		t.Errorf("Forced(%v, %q, %q) is %q, %t, not %q, %t", short(g), shortFill(fill), domains, shortFill(got), gotOK, shortFill(want), ok)
	}
}

// checkPlainDomains checks that the functions make of domains, for any grid and fill, what the plain ones do.
func checkPlainDomains(t *testing.T, g impl.Grid, fill string, domains [][]string) {
	t.Helper()
	placed := plainSlots(g)
	want, _ := plainPrune(placed, domains)
	checkPrune(t, g, domains, want)
	for _, d := range [][][]string{domains, want} {
		forced, ok := plainForced(g, fill, d)
		checkForced(t, g, fill, d, forced, ok)
	}
}

const listedWords = "eat era tac arc tan cat ten"

var domainCases = []struct{ text, fill, words, want string }{
	// Fills with no, some and all letters.
	{".../.#./...", "???/?#?/???", listedWords, "eat era tac arc tan cat ten/eat era tac arc tan cat ten/eat era tac arc tan cat ten/eat era tac arc tan cat ten"},
	{".../.#./...", "eat/r#?/???", listedWords, "eat/era/tac tan ten/eat era tac arc tan cat ten"},
	{".../.#./...", "eat/r#?/a??", listedWords, "eat/era/tac tan ten/arc"},
	{".../.#./...", "???/?#?/a??", listedWords, "eat era tac arc tan cat ten/era/eat era tac arc tan cat ten/arc"},
	{".../.#./...", "???/?#?/??n", listedWords, "eat era tac arc tan cat ten/eat era tac arc tan cat ten/tan ten/tan ten"},
	{".../.#./...", "?a?/?#?/???", listedWords, "eat tac tan cat/eat era tac arc tan cat ten/eat era tac arc tan cat ten/eat era tac arc tan cat ten"},
	{".../.#./...", "eat/r#a/arc", listedWords, "eat/era/tac/arc"},
	{".../.#./...", "eat/r#a/arc", "arc tac era eat", "eat/era/tac/arc"},
	{".../.#./...", "eat/r#a/arm", listedWords, "eat/era/-/-"},
	{".../.#./...", "z??/?#?/???", listedWords, "-/-/eat era tac arc tan cat ten/eat era tac arc tan cat ten"},
	// Slots of several lengths; other words are for no slot.
	{"#../...", "#??/???", "a no cat ten to wet tree abcdefgh", "no to/no to/no to/cat ten wet"},
	{"#../...", "#no/???", "a no cat ten to wet tree ne", "no/no ne/-/cat ten wet"},
	{"#../...", "#n?/?e?", "no ne ten ton wet", "no ne/ne/no ne/ten wet"},
	{"....../#.##.#", "??????/#?##?#", "orange ra ge an go", "orange/ra ge an go/ra ge an go"},
	// The order of the list stays, and so does a word that is there twice.
	{"../.#", "??/?#", "to no an no to at", "to no an no to at/to no an no to at"},
	{"../.#", "?o/?#", "to no an no to at", "to no no to/to no an no to at"},
	{"../.#", "n?/?#", "to no an no to at", "no no/no no"},
	// What is no word fits nothing.
	{"../.#", "??/?#", "No nO NO n? ?? n1 n. nö ## no", "no/no"},
	{"../.#", "??/?#", "N? .o", "-/-"},
	// Empty lists.
	{"../.#", "??/?#", "", "-/-"},
	{"../.#", "no/e#", "", "-/-"},
	// Grids without a slot, and slots that no other one crosses.
	{"##/##", "##/##", "no", ""},
	{".#/#.", "?#/#a", "a no", ""},
	{"../##/..", "?o/##/a?", "no at to an", "no to/at an"},
	// What is no fill has no domains.
	{"../.#", "??/??", "no", ""},
	{"../.#", "??/?", "no", ""},
	{"../.#", "??/?#?", "no", ""},
	{"../.#", "", "no", ""},
	{"../.#", "NO/?#", "no", ""},
	{"../.#", "../.#", "no", ""},
	{"../.#", "no/##", "no", ""},
	{"..", "??", "no", ""},
	{"", "", "no", ""},
}

func TestDomainsOfCases(t *testing.T) {
	for _, c := range domainCases {
		g, _ := plainParse(c.text)
		fill, words, want := strings.ReplaceAll(c.fill, "/", ""), strings.Fields(c.words), domainsOf(c.want)
		checkDomainsOf(t, g, fill, words, want)
		if plain := plainDomains(g, fill, words); !sameDomains(plain, want) {
			t.Errorf("the domains of %s should be %q", c.fill, plain)
		}
	}
}

func TestDomainsOfManyGrids(t *testing.T) {
	source := rand.New(rand.NewSource(131))
	words := slices.Concat(randomWords(40), someWords(), wordsOver("ab", 3))
	for _, g := range domainGrids(200, 132) {
		for _, fill := range []string{plainEmpty(g), fullFillOver(g, "ab", source), someFillOver(g, "ab", source), randomFill(g, source), plainEmpty(g) + "?", ""} {
			checkDomainsOf(t, g, fill, words, plainDomains(g, fill, words))
		}
		none := make([][]string, len(plainSlots(g)))
		checkDomainsOf(t, g, plainEmpty(g), nil, none)
		checkDomainsOf(t, g, plainEmpty(g), []string{}, none)
		checkDomainsOf(t, g, plainEmpty(g), strangeStrings(), none)
	}
}

// The words of each domain are those that fit its slot alone: each domain is WordsFitting of its pattern.
func TestDomainsOfAreTheWordsThatFit(t *testing.T) {
	source := rand.New(rand.NewSource(133))
	words := slices.Concat(wordsOver("abc", 4), noWords(), wordsOver("ab", 6), []string{"", "a", "ab"})
	for _, g := range randomGrids(60, 134) {
		fill := someFillOver(g, "ab", source)
		domains := impl.DomainsOf(g, fill, words)
		for slot, domain := range domains {
			if want := impl.WordsFitting(words, impl.SlotPattern(g, fill, slot)); !slices.Equal(domain, want) {
				t.Errorf("domain %d of %q is %q, not %q", slot, fill, domain, want)
			}
		}
		if len(domains) != len(impl.SlotsOf(g)) {
			t.Errorf("%q has %d domains", fill, len(domains))
		}
	}
}

func TestDomainsOfWhatIsNoFill(t *testing.T) {
	words := []string{"no", "arc", "tree", "aaaaaa", "", "??", "##"}
	for _, g := range wrongGrids() {
		for _, fill := range []string{"", "????", wouldBeFill(g, "?"), wouldBeFill(g, "a")} {
			checkDomainsOf(t, g, fill, words, nil)
		}
	}
	for _, g := range slices.Concat(gridsUpTo(4), randomGrids(40, 135)) {
		full := fullFill(g)
		for _, fill := range []string{"", full[1:], full + "a", full + "?", "." + full[1:], "A" + full[1:], full[:len(full)-1] + "\xff", g.Cells + "#", strings.Repeat("?", 1000)} {
			checkDomainsOf(t, g, fill, words, nil)
		}
	}
}

var supportCases = []struct {
	text, domains string
	slot          int
	word          string
	want          bool
}{
	// Slots that cross in their first and in their last cells.
	{".../.#./...", "eat/era/tac tan ten/eat era tac arc tan cat ten", 0, "eat", true},
	{".../.#./...", "eat/era/tac tan ten/eat era tac arc tan cat ten", 1, "era", true},
	{".../.#./...", "eat/era/tac tan ten/eat era tac arc tan cat ten", 2, "tac", true},
	{".../.#./...", "eat/era/tac tan ten/eat era tac arc tan cat ten", 2, "tan", true},
	{".../.#./...", "eat/era/tac tan ten/eat era tac arc tan cat ten", 3, "arc", true},
	{".../.#./...", "eat/era/tac tan ten/eat era tac arc tan cat ten", 3, "tan", false},
	{".../.#./...", "eat/era/tac tan ten/eat era tac arc tan cat ten", 3, "era", false},
	// Words that are not in their own domain, which may be empty.
	{".../.#./...", "eat/era/tac/arc", 0, "ett", true},
	{".../.#./...", "eat/era/tac/arc", 0, "tea", false},
	{".../.#./...", "eat/era/tac/arc", 0, "eta", false},
	{".../.#./...", "eat/era/tac/arc", 0, "tat", false},
	{".../.#./...", "-/era/tac/-", 0, "eat", true},
	{".../.#./...", "-/era/tac/-", 3, "arc", true},
	{".../.#./...", "-/era/tac/-", 1, "era", false},
	{".../.#./...", "eat/-/tac/arc", 0, "eat", false},
	{".../.#./...", "eat/-/tac/arc", 1, "era", true},
	{".../.#./...", "eat/-/tac/arc", 2, "tac", true},
	{".../.#./...", "-/-/-/-", 2, "tac", false},
	// Letters are compared at the places where the slots cross, not elsewhere.
	{"#.#/.../#.#", "arc/ore", 0, "bra", true},
	{"#.#/.../#.#", "arc/ore", 0, "oar", false},
	{"#.#/.../#.#", "arc/ore", 1, "tra", true},
	{"#.#/.../#.#", "arc/ore", 1, "rat", false},
	{".../##./##.", "eat/tan", 0, "bet", true},
	{".../##./##.", "eat/tan", 0, "tan", false},
	{".../##./##.", "eat/tan", 1, "the", true},
	{".../##./##.", "eat/tan", 1, "eat", false},
	{"../.#", "no/ne", 0, "nu", true},
	{"../.#", "no/ne", 0, "on", false},
	{"../.#", "no/ne", 1, "nz", true},
	{"../.#", "no/ne", 1, "oz", false},
	{"#./..", "no/go", 0, "to", true},
	{"#./..", "no/go", 0, "on", false},
	{"#./..", "no/go", 1, "do", true},
	{"#./..", "no/go", 1, "og", false},
	// Each crossing may be met by another word of the other slot.
	{"../..", "-/an in/ax on/-", 0, "io", true},
	{"../..", "-/an in/ax on/-", 0, "ia", true},
	{"../..", "-/an in/ax on/-", 0, "oi", false},
	{"../..", "-/an in/ax on/-", 0, "ii", false},
	{"../..", "-/an in/ax on/-", 0, "oo", false},
	{"../..", "-/an in/ax on/-", 3, "nx", true},
	{"../..", "-/an in/ax on/-", 3, "nn", true},
	{"../..", "-/an in/ax on/-", 3, "xn", false},
	// Slots that no other one crosses take every word of their length.
	{"../##/..", "-/-", 0, "no", true},
	{"../##/..", "-/-", 1, "zz", true},
	{"../##/..", "at/-", 0, "no", true},
	{"../##/..", "at/-", 0, "not", false},
	{"../##/..", "at/-", 2, "no", false},
	// Of two slots in one row only one is crossed by the third.
	{"..#../.###.", "no/ne/at/to", 0, "nz", true},
	{"..#../.###.", "no/ne/at/to", 0, "tz", false},
	{"..#../.###.", "no/ne/at/to", 2, "zt", true},
	{"..#../.###.", "no/ne/at/to", 2, "tz", false},
	// Words that do not have just Length letters.
	{".../.#./...", "eat/era/tac/arc", 0, "ea", false},
	{".../.#./...", "eat/era/tac/arc", 0, "eats", false},
	{".../.#./...", "eat/era/tac/arc", 0, "", false},
	{".../.#./...", "eat/era/tac/arc", 0, "EAT", false},
	{".../.#./...", "eat/era/tac/arc", 0, "eAt", false},
	{".../.#./...", "eat/era/tac/arc", 0, "e?t", false},
	{".../.#./...", "eat/era/tac/arc", 0, "e#t", false},
	{".../.#./...", "eat/era/tac/arc", 0, "???", false},
	{"../##/..", "no/no", 0, "n?", false},
	{"../##/..", "no/no", 0, "é", false},
	{"../##/..", "NO/NO", 0, "NO", false},
	{"../.#", "NO/NE", 0, "NO", false},
	// One domain too few, one too many, and none.
	{".../.#./...", "eat/era/tac", 0, "eat", false},
	{".../.#./...", "eat/era/tac/arc/eat", 0, "eat", false},
	{".../.#./...", "eat/era/tac/arc/-", 0, "eat", false},
	{".../.#./...", "", 0, "eat", false},
	{"../##/..", "no", 0, "no", false},
	{"../##/..", "no/no/no", 0, "no", false},
	// No slot.
	{"##/##", "", 0, "", false},
	{"##/##", "", 0, "a", false},
	{".#/##", "", 0, "a", false},
	{".#/##", "a", 0, "a", false},
	{"..", "", 0, "no", false},
	{"..", "no", 0, "no", false},
}

func TestSupportCases(t *testing.T) {
	for _, c := range supportCases {
		g, _ := plainParse(c.text)
		checkSupport(t, g, domainsOf(c.domains), c.slot, c.word, c.want)
		if plainSupport(plainSlots(g), domainsOf(c.domains), c.slot, c.word) != c.want {
			t.Errorf("%q in slot %d of %s with %s should not be %t", c.word, c.slot, c.text, c.domains, c.want)
		}
	}
}

func TestSupportOfManyDomains(t *testing.T) {
	source := rand.New(rand.NewSource(136))
	strange := strangeStrings()
	for _, g := range domainGrids(200, 137) {
		placed, domains := plainSlots(g), randomDomains(g, source)
		for slot := -1; slot <= len(domains); slot++ {
			// The words of its own domain and of another one, and one of few letters that is in none.
			words := []string{strange[source.Intn(len(strange))]}
			for _, near := range []int{slot, slot + 1} {
				if near >= 0 && near < len(domains) {
					words = append(words, domains[near]...)
					words = append(words, wordFor(strings.Repeat("?", len(placed[near].cells)), source))
				}
			}
			for _, word := range words {
				checkSupport(t, g, domains, slot, word, plainSupport(placed, domains, slot, word))
			}
		}
	}
}

// A word with one other letter has support just where no slot crosses it, or where the slot that does has a word with that letter too.
func TestSupportGoesByTheLettersAtCrossings(t *testing.T) {
	source := rand.New(rand.NewSource(138))
	for _, g := range slices.Concat(gridsUpTo(4), randomGrids(30, 139)) {
		placed, words := plainSlots(g), plainPatterns(g, fullFillOver(g, "abcd", source))
		domains := [][]string{}
		for _, word := range words {
			domains = append(domains, []string{word})
		}
		for slot, word := range words {
			checkSupport(t, g, domains, slot, word, true)
			for place, cell := range placed[slot].cells {
				alone := len(plainAt(g, cell)) == 1
				for value := range 256 {
					other := withByte(word, place, byte(value))
					want := other == word || value >= 'a' && value <= 'z' && alone
					checkSupport(t, g, domains, slot, other, want)
				}
			}
		}
	}
}

func TestSupportOfOtherSlots(t *testing.T) {
	source := rand.New(rand.NewSource(140))
	for _, g := range slices.Concat(gridsUpTo(4), randomGrids(40, 141)) {
		words := plainPatterns(g, fullFillOver(g, "ab", source))
		domains := [][]string{}
		for range words {
			domains = append(domains, words)
		}
		for _, slot := range slices.Concat(indicesAround(len(words)), edgeInts()) {
			for i, word := range slices.Concat(words, []string{"", "aa", "aaa"}) {
				if slot >= 0 && slot < len(words) {
					checkSupport(t, g, domains, slot, word, plainSupport(plainSlots(g), domains, slot, word))
					if i == slot {
						checkSupport(t, g, domains, slot, word, true)
					}
				} else {
					checkSupport(t, g, domains, slot, word, false)
				}
			}
		}
	}
}

// A string that is no word of its slot has no support, whatever stands in the other domains, though it may be in all of them.
func TestNoWordHasSupport(t *testing.T) {
	for _, text := range []string{"../..", "../##", ".../.#./...", "....../#####.", ".#/.#/.#"} {
		g, _ := plainParse(text)
		for _, word := range slices.Concat(noWords(), noPatterns()) {
			domains := [][]string{}
			for range plainSlots(g) {
				domains = append(domains, []string{word, "a", "ab", "abc", "abcd", "abcde", "abcdef", word})
			}
			for slot := -1; slot <= len(domains); slot++ {
				checkSupport(t, g, domains, slot, word, false)
			}
			for _, words := range impl.Prune(g, domains) {
				if slices.Contains(words, word) {
					t.Errorf("%q is left in %s", word, text)
				}
			}
		}
	}
}

// What stands in a domain gives support by its letter at the place alone; only when it is struck itself the words that need it go.
func TestStringsThatAreNoWordsInOtherDomains(t *testing.T) {
	g, _ := plainParse("../.#")
	for _, c := range []struct {
		other string
		want  bool
	}{
		{"ne", true}, {"n", true}, {"net", true}, {"nE", true}, {"n?", true}, {"n\xff", true}, {"nnnnnnnnnnnn", true},
		{"", false}, {"N", false}, {"en", false}, {"Ne", false}, {"?e", false}, {"\xeee", false}, {" n", false}, {"ñe", false}, {"\x0ee", false}, {".n", false},
	} {
		domains := [][]string{{"no"}, {c.other}}
		checkSupport(t, g, domains, 0, "no", c.want)
		want := [][]string{{}, {}}
		if c.other == "ne" {
			want = domains
		}
		checkPrune(t, g, domains, want)
	}
	g, _ = plainParse(".../##./##.")
	for _, other := range []string{"", "t", "te", "ten", "tent", "tEN", "ate", "at"} {
		domains := [][]string{{"eat"}, {other}}
		checkSupport(t, g, domains, 0, "eat", strings.HasPrefix(other, "t"))
		checkPlainDomains(t, g, "???##?##?", domains)
		// The last cell of the slot across is the first one of the slot down, and the shorter strings end before the last one of that.
		domains = [][]string{{other}, {"tan"}}
		checkSupport(t, g, domains, 1, "tan", len(other) > 2 && other[2] == 't')
		checkPlainDomains(t, g, "???##?##?", domains)
	}
}

func TestSupportOfWrongGrids(t *testing.T) {
	for _, g := range wrongGrids() {
		for _, domains := range [][][]string{nil, {}, {{}}, {{"no"}}, {{"no"}, {"no"}}, {{"no"}, {"no"}, {"on"}, {"on"}}, {nil, nil, nil, nil}} {
			for _, slot := range []int{-1, 0, 1, 3} {
				checkSupport(t, g, domains, slot, "no", false)
				checkSupport(t, g, domains, slot, "", false)
			}
			checkCopied(t, g, domains)
		}
	}
}

var pruneCases = []struct{ text, domains, want string }{
	// A word in each slot that the others meet, and then that is all.
	{".../.#./...", "eat/era/tac tan ten/eat era tac arc tan cat ten", "eat/era/tac/arc"},
	{".../.#./...", "eat era tac arc tan cat ten/era/tac tan ten/eat era tac arc tan cat ten", "eat/era/tac/arc"},
	{".../.#./...", "eat/era/tac/arc", "eat/era/tac/arc"},
	// A domain that dies at once takes all others of its part with it.
	{".../.#./...", "eat/era/tan/arc", "-/-/-/-"},
	{".../.#./...", "eat era tac/zzz/eat era tac/eat era tac", "-/-/-/-"},
	{".../.#./...", "-/era/tac/arc", "-/-/-/-"},
	{".../.#./...", "eat/era/tac/-", "-/-/-/-"},
	{".../.#./...", "-/-/-/-", "-/-/-/-"},
	{"../.#", "no/-", "-/-"},
	{"../.#", "-/no", "-/-"},
	{"../.#", "no/on", "-/-"},
	{"../.#", "no at it/on", "-/-"},
	// After one strike: "at" and "it" go, then "no" is all there is; or it goes too.
	{"../.#", "no at it/ne", "no/ne"},
	{"#./../.#", "no/at to oo/ox", "no/oo/ox"},
	{"#./../.#", "no/ot to/ox", "-/-/-"},
	{"..#/#../##.", "aa/aa bb/aa bb/bb", "-/-/-/-"},
	{"..#/#../##.", "aa/aa bb/aa bb/bb ab", "aa/aa/aa/ab"},
	// The other parts stay.
	{"../##/..", "-/no", "-/no"},
	{"../##/..", "no/-", "no/-"},
	{"../##/..", "-/-", "-/-"},
	{"../##/..", "no on/at ta", "no on/at ta"},
	{"../##/..", "no not n/NO on", "no/on"},
	{"..#../.###.", "no/ne/at/to", "no/ne/at/to"},
	{"..#../.###.", "-/ne/at/to", "-/-/at/to"},
	{"..#../.###.", "no/ne/ta/to", "no/ne/-/-"},
	{"..#../.###.", "no/-/ta/to", "-/-/-/-"},
	// The order of the words, and words that are there twice.
	{"../.#", "zo no at no za an/ne ax no", "no at no an/ne ax no"},
	{"../.#", "zo no zo no zo/ne ze ne", "zo no zo no zo/ne ze ne"},
	{"../.#", "zo no zo no zo/ne ne", "no no/ne ne"},
	{"../.#", "zo zo/ne ne", "-/-"},
	{".../.#./...", "eat eat/era tan era/tac tac tac/arc eat arc", "eat eat/era era/tac tac tac/arc arc"},
	// Words that do not have just Length letters give no support in the end.
	{"../.#", "n no not/n ne net", "no/ne"},
	{"../.#", "n no not/n net", "-/-"},
	{"../.#", "NO No no/NE Ne", "-/-"},
	{"../.#", "NO No no/NE Ne ne", "no/ne"},
	{"../.#", "n? no/n? ?? ne", "no/ne"},
	{"../.#", "n?/ne", "-/-"},
	{"#./..", "no o/go oo do o", "no/go oo do"},
	// Slots that cross in their middle, last and first cells.
	{"#.#/.../#.#", "arc ten/ore rat", "arc/ore"},
	{"#.#/.../#.#", "arc tan/rat", "tan/rat"},
	{".../##./##.", "eat tea/tan eat arc", "eat tea/tan arc"},
	{".../##./##.", "eat/eat", "-/-"},
	{"../.#", "no at/ne", "no/ne"},
	{"#./..", "no at/go", "no/go"},
	// Every word has support, though there is no solution: only support counts.
	{"../..", "aa bb/aa bb/aa bb/ab ba", "aa bb/aa bb/aa bb/ab ba"},
	{"../..", "aa bb/aa bb/aa bb/ab", "-/-/-/-"},
	{"../..", "aa bb/aa bb/aa bb/ab bb", "bb/bb/bb/bb"},
	{"../..", "aa bb/aa bb/aa bb/aa bb", "aa bb/aa bb/aa bb/aa bb"},
	{"../..", "aa bb cc/aa bb/bb cc/aa bb cc", "bb/bb/bb/bb"},
	// The same word may be in two slots.
	{"../..", "no/no/on/on", "no/no/on/on"},
	{".../.#./...", "eve/eve/eve/eve", "eve/eve/eve/eve"},
	// One domain too few, one too many, or no slot: nothing is struck.
	{".../.#./...", "eat/zzz/z", "eat/zzz/z"},
	{".../.#./...", "eat/zzz/tac/arc/z", "eat/zzz/tac/arc/z"},
	{".../.#./...", "eat/-/tac/arc/-", "eat/-/tac/arc/-"},
	{".../.#./...", "", ""},
	{"../##", "no/no", "no/no"},
	{"##/##", "", ""},
	{"##/##", "no N/-", "no N/-"},
	{".#/##", "a", "a"},
	{"..", "no on", "no on"},
	{"..", "", ""},
	{"", "eat/-/?", "eat/-/?"},
}

func TestPruneCases(t *testing.T) {
	for _, c := range pruneCases {
		g, _ := plainParse(c.text)
		domains, want := domainsOf(c.domains), domainsOf(c.want)
		checkPrune(t, g, domains, want)
		if plain, _ := plainPrune(plainSlots(g), domains); !sameDomains(plain, want) {
			t.Errorf("%s of %s should become %q", c.domains, c.text, plain)
		}
	}
}

func TestPruneOfManyDomains(t *testing.T) {
	source := rand.New(rand.NewSource(142))
	for _, g := range domainGrids(600, 143) {
		fill := someFillOver(g, "ab", source)
		for range 2 {
			checkPlainDomains(t, g, fill, randomDomains(g, source))
		}
		checkPlainDomains(t, g, fill, plainDomains(g, fill, wordsOver("ab", 4)))
	}
}

// All small domains of two slots and of four.
func TestPruneOfAllSmallDomains(t *testing.T) {
	parts := []string{"-", "ab", "ba", "aa", "ab ba", "bb aa", "aa ab", "ba bb ba"}
	for _, first := range parts {
		for _, second := range parts {
			for _, text := range []string{"../.#", "../#.", ".#/..", "#./..", "../##/..", ".#./.#."} {
				g, _ := plainParse(text)
				checkPlainDomains(t, g, plainEmpty(g), domainsOf(first+"/"+second))
			}
			for _, third := range parts {
				for _, fourth := range parts {
					g, _ := plainParse("../..")
					checkPlainDomains(t, g, "????", domainsOf(first+"/"+second+"/"+third+"/"+fourth))
				}
			}
		}
	}
}

// checkStrikes checks the promise of pruning: what is left is in the order it was in and has support, and what is struck is in no solution.
func checkStrikes(t *testing.T, g impl.Grid, domains [][]string) (struck, kept int) {
	t.Helper()
	placed, pruned := plainSlots(g), impl.Prune(g, domains)
	if len(pruned) != len(domains) {
		t.Fatalf("Prune(%v, %q) is %q", g, domains, pruned)
	}
	for slot, words := range domains {
		left := pruned[slot]
		for _, word := range words {
			if len(left) > 0 && left[0] == word {
				left = left[1:]
				kept++
				if !impl.Support(g, pruned, slot, word) || !plainSupport(placed, pruned, slot, word) {
					t.Errorf("in %q, %q of slot %d of %v has no support", pruned, word, slot, g)
				}
				continue
			}
			struck++
			if isInSolution(placed, domains, slot, word) {
				t.Errorf("from %q of %v, %q of slot %d is struck, which is in a solution", domains, g, word, slot)
			}
			if slices.Contains(pruned[slot], word) {
				t.Errorf("from %q of %v, %q of slot %d is struck only once", domains, g, word, slot)
			}
		}
		if len(left) > 0 {
			t.Errorf("the domain %q of slot %d of %v becomes %q", words, slot, g, pruned[slot])
		}
	}
	return struck, kept
}

func TestPruningStrikesOnlyWhatIsInNoSolution(t *testing.T) {
	source := rand.New(rand.NewSource(144))
	struck, kept := 0, 0
	for _, g := range domainGrids(400, 145) {
		for range 2 {
			s, k := checkStrikes(t, g, randomDomains(g, source))
			struck, kept = struck+s, kept+k
		}
		fill := someFillOver(g, "ab", source)
		s, k := checkStrikes(t, g, impl.DomainsOf(g, fill, wordsOver("ab", 3)))
		struck, kept = struck+s, kept+k
	}
	if struck < 1000 || kept < 1000 {
		t.Errorf("only %d words are struck, and %d kept", struck, kept)
	}
}

// The words of a full fill are never struck when they are in their domains, whatever else is in these.
func TestPruneKeepsTheWordsOfFills(t *testing.T) {
	source := rand.New(rand.NewSource(146))
	for _, g := range domainGrids(300, 147) {
		words := plainPatterns(g, fullFillOver(g, "abc", source))
		domains := randomDomains(g, source)
		for slot, word := range words {
			domains[slot] = slices.Insert(domains[slot], source.Intn(len(domains[slot])+1), word)
		}
		pruned := impl.Prune(g, domains)
		for slot, word := range words {
			if !slices.Contains(pruned[slot], word) {
				t.Errorf("from %q of %v, %q of slot %d is struck", domains, g, word, slot)
			}
		}
		if impl.IsDead(pruned) || impl.CountChoices(pruned) < len(words) {
			t.Errorf("%q of %v is dead when it is pruned", domains, g)
		}
	}
}

// stairs are grids of ten slots in a chain: slot i crosses slot i + 1 and slot i - 1 alone.
func stairs(t *testing.T) []impl.Grid {
	t.Helper()
	grids := []impl.Grid{}
	for _, text := range []string{"..####/#..###/##..##/###..#/####../#####.", "####../###..#/##..##/#..###/..####/.#####"} {
		g, _ := plainParse(text)
		for slot := range 10 {
			want := slices.DeleteFunc([]int{slot - 1, slot + 1}, func(other int) bool { return other < 0 || other > 9 })
			if !slices.Equal(plainCrossed(plainSlots(g), slot), want) {
				t.Fatalf("slot %d of %s crosses %v", slot, text, plainCrossed(plainSlots(g), slot))
			}
		}
		grids = append(grids, g)
	}
	return grids
}

// sameInAll returns domains with the same words for so many slots.
func sameInAll(words string, slots int) [][]string {
	return domainsOf(strings.Repeat("/"+words, slots)[1:])
}

// One word that a slot does not have decides what the slots have to both ends of the chain; two that contradict each other leave nothing.
func TestPruneAlongAChain(t *testing.T) {
	for _, g := range stairs(t) {
		for slot := range 10 {
			domains := sameInAll("aa bb", 10)
			checkCopied(t, g, domains)
			domains[slot] = []string{"aa"}
			checkPrune(t, g, domains, sameInAll("aa", 10))
			for other := range 10 {
				both := slices.Clone(domains)
				both[other] = []string{"bb"}
				if other != slot {
					checkPrune(t, g, both, sameInAll("-", 10))
				} else {
					checkPrune(t, g, both, sameInAll("bb", 10))
				}
				both[other] = nil
				checkPrune(t, g, both, sameInAll("-", 10))
			}
		}
	}
}

// Round the four slots of a ring, each strike leads to just one more: a letter goes from slot to slot, and then the next letter of the alphabet does.
func TestPruneAlongALongChain(t *testing.T) {
	g, _ := plainParse(".../.#./...")
	same, next := []string{}, []string{}
	for letter := 'a'; letter <= 'z'; letter++ {
		same = append(same, string(letter)+"x"+string(letter))
		if letter < 'z' {
			next = append(next, string(letter)+"x"+string(letter+1))
		}
	}
	for odd := range 4 {
		domains := [][]string{same, same, same, same}
		domains[odd] = next
		left, rounds := plainPrune(plainSlots(g), domains)
		if !impl.IsDead(left) || rounds < 40 {
			t.Fatalf("%q is left after %d rounds", left, rounds)
		}
		checkPrune(t, g, domains, sameInAll("-", 4))
		// One word ends both chains, and all words that it meets stay.
		domains[odd] = slices.Insert(slices.Clone(next), 7, "mxm")
		checkPrune(t, g, domains, sameInAll("mxm", 4))
		// With one word more the letters go round for ever, and all words have support.
		domains[odd] = append(slices.Clone(next), "zxa")
		checkCopied(t, g, domains)
	}
}

// With many words in each domain, pruning ends.
func TestPruneOfManyWords(t *testing.T) {
	all := wordsOver("abcdefghijklmnopqrstuvwxyz", 3)
	g, _ := plainParse(".../.#./...")
	domains := impl.DomainsOf(g, impl.EmptyFill(g), all)
	if got := impl.CountChoices(domains); got != 4*26*26*26 {
		t.Errorf("the empty fill has %d choices", got)
	}
	if got := impl.Prune(g, domains); !sameDomains(got, domains) {
		t.Errorf("of %d words, %d are left", impl.CountChoices(domains), impl.CountChoices(got))
	}
	domains = impl.DomainsOf(g, "q???#????", all)
	domains[3] = []string{"arc"}
	pruned := impl.Prune(g, domains)
	for slot, want := range []string{"q??", "q?a", "??c", "arc"} {
		if !slices.Equal(pruned[slot], impl.WordsFitting(all, want)) {
			t.Errorf("%d words are left in slot %d", len(pruned[slot]), slot)
		}
	}
}

// An empty domain empties all that are connected to it by crossings, and no other one.
func TestAnEmptyDomainEmptiesItsPart(t *testing.T) {
	source := rand.New(rand.NewSource(148))
	for _, g := range domainGrids(150, 149) {
		placed, domains := plainSlots(g), [][]string{}
		for _, word := range plainPatterns(g, fullFillOver(g, "abc", source)) {
			domains = append(domains, []string{word})
		}
		checkCopied(t, g, domains)
		for slot := range placed {
			part := []int{slot}
			for i := 0; i < len(part); i++ {
				for _, other := range plainCrossed(placed, part[i]) {
					if !slices.Contains(part, other) {
						part = append(part, other)
					}
				}
			}
			dead, want := slices.Clone(domains), slices.Clone(domains)
			dead[slot] = nil
			for _, other := range part {
				want[other] = nil
			}
			checkPrune(t, g, dead, want)
			if !impl.IsDead(dead) || !impl.IsDead(impl.Prune(g, dead)) {
				t.Errorf("%q of %v is not dead", dead, g)
			}
		}
	}
}

func TestPruneOfAnotherNumberOfDomains(t *testing.T) {
	source := rand.New(rand.NewSource(150))
	for _, g := range slices.Concat(gridsUpTo(6), randomGrids(60, 151)) {
		domains := randomDomains(g, source)
		for _, other := range [][][]string{append(slices.Clone(domains), nil), append(slices.Clone(domains), []string{"no", "N", ""}), slices.Concat(domains, domains, [][]string{{"a"}})} {
			checkCopied(t, g, other)
			checkForced(t, g, plainEmpty(g), other, plainEmpty(g), false)
			checkSupport(t, g, other, 0, strings.Repeat("a", 2), false)
		}
		for count := range domains {
			checkCopied(t, g, domains[:count])
			checkForced(t, g, plainEmpty(g), domains[:count], plainEmpty(g), false)
			for slot, word := range plainPatterns(g, fullFillOver(g, "a", source)) {
				checkSupport(t, g, domains[:count], slot, word, false)
			}
		}
	}
}

func TestIsDeadAndCountChoices(t *testing.T) {
	cases := []struct {
		domains [][]string
		dead    bool
		count   int
	}{
		{nil, false, 0},
		{[][]string{}, false, 0},
		{[][]string{nil}, true, 0},
		{[][]string{{}}, true, 0},
		{[][]string{{"no"}}, false, 1},
		// A string that is no word is one all the same.
		{[][]string{{""}}, false, 1},
		{[][]string{{"", ""}, {"NO"}}, false, 3},
		{[][]string{{"no", "no"}, {"at"}}, false, 3},
		{[][]string{{"no"}, {}}, true, 1},
		{[][]string{{}, {"no"}}, true, 1},
		{[][]string{{"a", "b"}, nil, {"c", "d", "e"}}, true, 5},
		{[][]string{nil, nil, nil}, true, 0},
		{[][]string{make([]string, 300), make([]string, 1)}, false, 301},
		{make([][]string, 500), true, 0},
		{slices.Repeat([][]string{{"a", "b", "c"}}, 100), false, 300},
		{append(slices.Repeat([][]string{{"a", "b", "c"}}, 100), nil), true, 300},
	}
	for _, c := range cases {
		if impl.IsDead(c.domains) != c.dead || impl.CountChoices(c.domains) != c.count {
			t.Errorf("IsDead(%q) is %t, and CountChoices %d", c.domains, impl.IsDead(c.domains), impl.CountChoices(c.domains))
		}
	}
}

var forcedCases = []struct {
	text, fill, domains, want string
	ok                        bool
}{
	// All domains have one word, and some.
	{".../.#./...", "eat/r#?/???", "eat/era/tac/arc", "eat/r#a/arc", true},
	{".../.#./...", "???/?#?/???", "eat/era/tac/arc", "eat/r#a/arc", true},
	{".../.#./...", "eat/r#a/arc", "eat/era/tac/arc", "eat/r#a/arc", true},
	{".../.#./...", "eat/r#?/???", "eat/era/tac tan ten/eat era", "eat/r#?/a??", true},
	{".../.#./...", "???/?#?/???", "eat tea/era tac/tac/arc era", "??t/?#a/??c", true},
	{".../.#./...", "???/?#?/???", "eat tea/-/tac tan/arc", "???/?#?/arc", true},
	// None has.
	{".../.#./...", "e??/?#?/???", "eat era/-/-/arc tan ten", "e??/?#?/???", true},
	{".../.#./...", "e??/?#?/???", "-/-/-/-", "e??/?#?/???", true},
	// The same word twice is not just one word.
	{".../.#./...", "???/?#?/???", "eat eat/era/tac tac tac/-", "e??/r#?/a??", true},
	// Words that contradict each other at a crossing: the first two, the last two, the first and the last of a middle.
	{".../.#./...", "???/?#?/???", "eat/arc/tac/-", "???/?#?/???", false},
	{".../.#./...", "???/?#?/???", "eat/era/tac/ore", "???/?#?/???", false},
	{".../.#./...", "???/?#?/???", "eat/-/-/arc", "eat/?#?/arc", true},
	{".../.#./...", "???/?#?/???", "-/era/-/ore", "???/?#?/???", false},
	{"#.#/.../#.#", "#?#/???/#?#", "arc/ore", "#a#/ore/#c#", true},
	{"#.#/.../#.#", "#?#/???/#?#", "arc/rat", "#?#/???/#?#", false},
	{"../..", "??/??", "no/no/on/on", "no/on", true},
	{"../..", "??/??", "no/no/on/no", "??/??", false},
	{"../..", "??/??", "no/no/on oh/on", "no/on", true},
	// A word that contradicts a letter of the fill.
	{".../.#./...", "cat/?#?/???", "eat/era/tac/arc", "cat/?#?/???", false},
	{".../.#./...", "???/?#?/??t", "eat/era/tac/arc", "???/?#?/??t", false},
	{".../.#./...", "???/?#?/??t", "eat/era/-/arc are", "eat/r#?/a?t", true},
	{".../.#./...", "cat/?#?/???", "eat tea/-/tac/arc", "cat/?#a/arc", true},
	// A word that has not just Length letters.
	{"../##", "??/##", "not", "??/##", false},
	{"../##", "??/##", "n", "??/##", false},
	{"../##", "??/##", "NO", "??/##", false},
	{"../##", "??/##", "n?", "??/##", false},
	{"../##", "n?/##", "n?", "n?/##", false},
	{"../##", "n?/##", "no", "no/##", true},
	{"../##", "no/##", "no", "no/##", true},
	{"../##/..", "??/##/??", "no/on", "no/##/on", true},
	{"../##/..", "??/##/??", "no/ON", "??/##/??", false},
	{"../##/..", "??/##/??", "NO/on", "??/##/??", false},
	// White cells in no slot stay as they are.
	{"..#/##.", "??#/##q", "no", "no#/##q", true},
	{"..#/##.", "??#/##?", "no", "no#/##?", true},
	// A fill that is none: no word can be written, but nothing goes wrong where none has to be.
	{"../##", "??/#?", "no", "??/#?", false},
	{"../##", "??", "no", "??", false},
	{"../##", "", "no", "", false},
	{"../##", "NO/##", "no", "NO/##", false},
	{"../##", "??/#?", "no on", "??/#?", true},
	{"../##", "", "-", "", true},
	{"../##", "nonsense", "-", "nonsense", true},
	{"../##/..", "??/??/??", "no on/at ta", "??/??/??", true},
	// One domain too few, one too many.
	{".../.#./...", "???/?#?/???", "eat/era/tac", "???/?#?/???", false},
	{".../.#./...", "???/?#?/???", "eat/era/tac/arc/-", "???/?#?/???", false},
	{".../.#./...", "???/?#?/???", "eat/era/tac/arc/eat", "???/?#?/???", false},
	{".../.#./...", "e??/?#?/???", "", "e??/?#?/???", false},
	{".../.#./...", "", "", "", false},
	{"../##", "??/##", "no/no", "??/##", false},
	// No slot, and nothing to write.
	{"##/##", "##/##", "", "##/##", true},
	{"##/##", "??/??", "", "??/??", true},
	{"##/##", "##/##", "no", "##/##", false},
	{"##/##", "##/##", "-", "##/##", false},
	{".#/##", "?#/##", "", "?#/##", true},
	{".#/##", "?#/##", "a", "?#/##", false},
	{"..", "??", "", "??", true},
	{"..", "??", "no", "??", false},
	{"..", "", "", "", true},
	{"", "", "", "", true},
	{"", "fill", "-", "fill", false},
}

func TestForcedCases(t *testing.T) {
	for _, c := range forcedCases {
		g, _ := plainParse(c.text)
		fill, want := strings.ReplaceAll(c.fill, "/", ""), strings.ReplaceAll(c.want, "/", "")
		checkForced(t, g, fill, domainsOf(c.domains), want, c.ok)
		if plain, ok := plainForced(g, fill, domainsOf(c.domains)); plain != want || ok != c.ok {
			t.Errorf("%s of %s should make %q, %t of %q", c.domains, c.text, plain, ok, fill)
		}
	}
}

// The words of a full fill are forced one by one, whatever the other domains have; a letter against one of them forbids all.
func TestForcedWritesTheWordsOfFills(t *testing.T) {
	source := rand.New(rand.NewSource(152))
	for _, g := range domainGrids(150, 153) {
		full := fullFillOver(g, "abcdef", source)
		placed, words := plainSlots(g), plainPatterns(g, full)
		domains, fill := [][]string{}, plainEmpty(g)
		for slot, word := range words {
			domains = append(domains, [][]string{nil, {word}, {word}, {word, word}, {"no", word}}[source.Intn(5)])
			if len(domains[slot]) == 1 {
				for place, cell := range placed[slot].cells {
					fill = withByte(fill, cell, word[place])
				}
			}
		}
		checkForced(t, g, plainEmpty(g), domains, fill, true)
		checkForced(t, g, full, domains, full, true)
		checkForced(t, g, fill, domains, fill, true)
		for cell := range len(fill) {
			if g.Cells[cell] == '#' {
				continue
			}
			alone := withByte(plainEmpty(g), cell, 'z')
			if fill[cell] == '?' {
				checkForced(t, g, alone, domains, withByte(fill, cell, 'z'), true)
			} else {
				checkForced(t, g, alone, domains, alone, false)
			}
		}
	}
}

// What the crossings leave is forced, and then each slot that has a word has one of its domain.
func TestForcedAfterPruning(t *testing.T) {
	source := rand.New(rand.NewSource(154))
	for _, g := range slices.Concat(fineGrids(), randomGrids(400, 155)) {
		fill := someFillOver(g, "abc", source)
		domains := impl.DomainsOf(g, fill, randomListed(g, source))
		pruned := impl.Prune(g, domains)
		forced, ok := impl.Forced(g, fill, pruned)
		if want, wantOK := plainForced(g, fill, pruned); forced != want || ok != wantOK {
			t.Errorf("Forced(%v, %q, %q) is %q, %t", g, fill, pruned, forced, ok)
		}
		if !ok || impl.IsDead(pruned) {
			continue
		}
		for slot, words := range pruned {
			if got := impl.SlotPattern(g, forced, slot); len(words) == 1 && got != words[0] {
				t.Errorf("%q is in slot %d of %v, not %q", got, slot, g, words)
			}
		}
	}
}

// randomListed returns the words of some full fills of a grid.
func randomListed(g impl.Grid, source *rand.Rand) []string {
	words := []string{}
	for range 1 + source.Intn(3) {
		words = append(words, plainPatterns(g, fullFillOver(g, "abc", source))...)
	}
	return words
}

func TestForcedOfWrongGrids(t *testing.T) {
	for _, g := range wrongGrids() {
		for _, fill := range []string{"", "????", wouldBeFill(g, "?")} {
			checkForced(t, g, fill, nil, fill, true)
			checkForced(t, g, fill, [][]string{}, fill, true)
			checkForced(t, g, fill, [][]string{{"no"}}, fill, false)
			checkForced(t, g, fill, [][]string{nil}, fill, false)
			checkForced(t, g, fill, [][]string{{"no"}, {"no"}, {"on"}, {"on"}}, fill, false)
		}
	}
}

func TestDomainsWithRandomFills(t *testing.T) {
	source := rand.New(rand.NewSource(156))
	for _, g := range domainGrids(200, 157) {
		fill := randomFill(g, source)
		domains := randomDomains(g, source)
		checkPlainDomains(t, g, fill, domains)
		checkPlainDomains(t, g, fill+"?", domains)
		for slot := range domains {
			// One slot has a word, or none has.
			alone := make([][]string, len(domains))
			alone[slot] = domains[slot][:min(1, len(domains[slot]))]
			checkPlainDomains(t, g, fill, alone)
		}
	}
}

// spareDomains returns domains with words and domains beyond their ends.
func spareDomains(domains [][]string) [][]string {
	spare := [][]string{}
	for _, words := range domains {
		spare = append(spare, append(slices.Clone(words), "one", "two", "six")[:len(words)])
	}
	return append(spare, []string{"ten"}, nil)[:len(domains)]
}

// adjacentDomains returns domains that lie in one list one after the other, so that each goes on with the next one.
func adjacentDomains(domains [][]string) [][]string {
	list, parts := slices.Concat(domains...), [][]string{}
	from := 0
	for _, words := range domains {
		parts = append(parts, list[from:from+len(words)])
		from += len(words)
	}
	return parts
}

// wholeDomains returns a copy of domains and of all that lies beyond their ends.
func wholeDomains(domains [][]string) [][]string {
	whole := [][]string{}
	for _, words := range domains[:cap(domains)] {
		whole = append(whole, slices.Clone(words[:cap(words)]))
	}
	return whole
}

// overwriteDomains overwrites domains and all that lies beyond their ends.
func overwriteDomains(domains [][]string) {
	domains = domains[:cap(domains)]
	for slot := range domains {
		overwriteStrings(domains[slot])
		domains[slot] = []string{"over"}
	}
}

// manyDomains returns domains for the slots of a grid and others, as copies, with words beyond their ends and one after the other.
func manyDomains(g impl.Grid, source *rand.Rand) [][][]string {
	made := [][][]string{nil, {}, {{"no"}}, make([][]string, len(plainSlots(g)))}
	for range 3 {
		made = append(made, randomDomains(g, source))
	}
	words := plainPatterns(g, fullFillOver(g, "ab", source))
	shared := [][]string{}
	for range words {
		shared = append(shared, words)
	}
	made = append(made, shared, append(slices.Clone(shared), words))
	for _, domains := range slices.Clone(made) {
		made = append(made, spareDomains(domains), adjacentDomains(domains))
	}
	return made
}

func TestDomainsKeepTheirMemory(t *testing.T) {
	source := rand.New(rand.NewSource(158))
	for _, g := range slices.Concat(gridsUpTo(4), randomGrids(80, 159), wrongGrids()[:20]) {
		fill := ""
		if plainIsGrid(g) {
			fill = plainEmpty(g)
		}
		for _, domains := range manyDomains(g, source) {
			whole := wholeDomains(domains)
			overwriteDomains(impl.Prune(g, domains))
			impl.Forced(g, fill, domains)
			impl.IsDead(domains)
			impl.CountChoices(domains)
			for slot := -1; slot <= len(domains); slot++ {
				impl.Support(g, domains, slot, "aa")
			}
			if !sameDomains(wholeDomains(domains), whole) {
				t.Errorf("the domains %q of %v become %q", whole, short(g), wholeDomains(domains))
			}
		}
	}
}

func TestPruneIsNewEachTime(t *testing.T) {
	source := rand.New(rand.NewSource(160))
	for _, g := range slices.Concat(gridsUpTo(4), randomGrids(80, 161), wrongGrids()[:20]) {
		for _, domains := range manyDomains(g, source) {
			want, _ := plainPrune(plainSlots(g), domains)
			first, second := impl.Prune(g, domains), impl.Prune(g, domains)
			checkApart(t, first)
			overwriteDomains(first)
			if !sameDomains(second, want) || !sameDomains(impl.Prune(g, domains), want) {
				t.Errorf("a change of one result of Prune(%v, %q) makes another one %q", short(g), domains, second)
			}
			overwriteDomains(domains)
			if !sameDomains(second, want) {
				t.Errorf("a change of domains of %v makes their result %q", short(g), second)
			}
		}
	}
}

// checkApart checks that the domains of a result do not go on into each other.
func checkApart(t *testing.T, domains [][]string) {
	t.Helper()
	before := copyDomains(domains)
	for _, words := range domains {
		for i := len(words); i < cap(words); i++ {
			words[:cap(words)][i] = "over"
		}
	}
	if !sameDomains(domains, before) {
		t.Errorf("the domains %q go on into each other", before)
	}
	for slot, words := range domains {
		kept := slices.Clone(words)
		overwriteStrings(words)
		for other := range domains {
			if other != slot && !slices.Equal(domains[other], before[other]) {
				t.Errorf("the domains %d and %d of %q share memory", slot, other, before)
			}
		}
		copy(words, kept)
	}
}

func TestDomainsOfAreNewEachTime(t *testing.T) {
	source := rand.New(rand.NewSource(162))
	for _, g := range slices.Concat(gridsUpTo(4), randomGrids(80, 163)) {
		fill := randomFill(g, source)
		for _, list := range [][]string{nil, {}, {"aa"}, wordsOver("ab", 3), randomWords(30), strangeStrings(), plainPatterns(g, fullFill(g))} {
			words := append(slices.Clone(list), "no", "one")[:len(list)]
			want := plainDomains(g, fill, list)
			first, second := impl.DomainsOf(g, fill, words), impl.DomainsOf(g, fill, words)
			checkApart(t, first)
			overwriteDomains(first)
			if !sameDomains(second, want) || !sameDomains(impl.DomainsOf(g, fill, words), want) {
				t.Errorf("a change of one result of DomainsOf(%v, %q) makes another one %q", g, fill, second)
			}
			if whole := words[:len(list)+2]; !slices.Equal(whole, slices.Concat(list, []string{"no", "one"})) {
				t.Errorf("the list %q becomes %q", list, whole)
			}
			overwriteStrings(words)
			if !sameDomains(second, want) {
				t.Errorf("a change of the list makes the domains of %v %q", g, second)
			}
		}
	}
}

func TestDomainsAreTheSameEachTime(t *testing.T) {
	source := rand.New(rand.NewSource(164))
	grids := slices.Concat(gridsUpTo(4), randomGrids(60, 165), wrongGrids()[:20])
	for i, g := range grids {
		domains, fill, words := [][]string{{"no"}}, "????", randomWords(20)
		if plainIsGrid(g) {
			domains, fill = randomDomains(g, source), randomFill(g, source)
		}
		made, pruned := impl.DomainsOf(g, fill, words), impl.Prune(g, domains)
		forced, ok := impl.Forced(g, fill, pruned)
		support := impl.Support(g, domains, 0, "aa")
		other := grids[len(grids)-1-i]
		for range 5 {
			impl.Prune(other, domains)
			impl.Prune(other, impl.DomainsOf(other, impl.EmptyFill(other), words))
			impl.Forced(other, fill, pruned)
			again, againOK := impl.Forced(g, fill, pruned)
			same := sameDomains(impl.DomainsOf(g, fill, words), made) && sameDomains(impl.Prune(g, domains), pruned) && impl.Support(g, domains, 0, "aa") == support
			if !same || again != forced || againOK != ok || impl.IsDead(pruned) != slices.ContainsFunc(pruned, func(w []string) bool { return len(w) == 0 }) {
				t.Errorf("what the functions return of %v, %q and %q changes", short(g), fill, domains)
			}
		}
	}
}
