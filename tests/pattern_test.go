package tests

import (
	"math"
	"math/rand"
	"slices"
	"strings"
	"testing"

	"loop.example/g03003/impl"
)

const patternBytes = "abcdefghijklmnopqrstuvwxyz?"

// openPatterns are the patterns without letters, one of each length.
func openPatterns() []string {
	var open []string
	for length := 1; length <= impl.MaxWord; length++ {
		open = append(open, strings.Repeat("?", length))
	}
	return open
}

// somePatterns are patterns of each length, with all, some and none of their letters.
func somePatterns() []string {
	made := []string{"a?", "?a", "c?t", "c??", "?a?", "??t", "ca?", "?at", "ca?s", "z?z", "tr?ce", "?????e?t", "a??????h", "?bcdefgh", "abcdefg?"}
	return slices.Concat(made, openPatterns(), someWords())
}

// noPatterns are strings that are no patterns: too short, too long, or with a byte at one place that is neither a letter nor "?".
func noPatterns() []string {
	strange := []string{"?????????", "abcdefgh?", "?abcdefgh", strings.Repeat("?", 100), strings.Repeat("?", 256), strings.Repeat("?", 257), strings.Repeat("?", 264),
		"C?t", "c?T", "c#t", "c?t ", " c?t", "? ", "?`", "?{", "c?\n", "?\x00", "??A", "é?", "?é", "？", "c？t", "?\xff", "?\x80", "\xbf", "\xe1?", "¿", "*", "_", ".", "c_t", "c.t", ">", "@"}
	for _, s := range noWords() {
		if !strings.Contains(s, "?") || strings.Trim(s, patternBytes) != "" || len(s) > impl.MaxWord {
			strange = append(strange, s)
		}
	}
	for value := range 256 {
		if b := byte(value); !strings.Contains(patternBytes, string([]byte{b})) {
			strange = append(strange, string([]byte{b, '?'}), string([]byte{'?', b}), "c?t"+string([]byte{b})+"?ats")
		}
	}
	return strange
}

// patternsOver returns all patterns of at most longest places with the letters and with open places.
func patternsOver(letters string, longest int) []string {
	return wordsOver(letters+"?", longest)
}

// opened returns a word as a pattern in which the source leaves some places open.
func opened(word string, source *rand.Rand) string {
	places := []byte(word)
	share := source.Intn(5)
	for i := range places {
		if source.Intn(4) < share {
			places[i] = '?'
		}
	}
	return string(places)
}

// plainIsPattern says what IsPattern should.
func plainIsPattern(p string) bool {
	return len(p) >= 1 && len(p) <= 8 && strings.Trim(p, patternBytes) == ""
}

// plainFits says what FitsPattern should, place by place.
func plainFits(p, word string) bool {
	if !plainIsPattern(p) || !plainIsPattern(word) || strings.Contains(word, "?") || len(p) != len(word) {
		return false
	}
	for i := range len(p) {
		if p[i] != '?' && p[i] != word[i] {
			return false
		}
	}
	return true
}

// plainMeet says what MeetPatterns should, place by place.
func plainMeet(p, q string) (string, bool) {
	if !plainIsPattern(p) || !plainIsPattern(q) || len(p) != len(q) {
		return "", false
	}
	meet := ""
	for i := range len(p) {
		switch {
		case p[i] == '?':
			meet += q[i : i+1]
		case q[i] == '?' || q[i] == p[i]:
			meet += p[i : i+1]
		default:
			return "", false
		}
	}
	return meet, true
}

// plainLettersAt says what LettersAt should, letter by letter.
func plainLettersAt(words []string, at int) string {
	letters := ""
	for letter := 'a'; letter <= 'z'; letter++ {
		has := func(word string) bool {
			return plainFits(strings.Repeat("?", len(word)), word) && at >= 0 && at < len(word) && rune(word[at]) == letter
		}
		if slices.ContainsFunc(words, has) {
			letters += string(letter)
		}
	}
	return letters
}

// checkMeet checks the meet of two strings in both orders.
func checkMeet(t *testing.T, p, q, want string, found bool) {
	t.Helper()
	if got, ok := impl.MeetPatterns(p, q); got != want || ok != found {
		t.Errorf("MeetPatterns(%q, %q) is %q, %t, not %q, %t", p, q, got, ok, want, found)
	}
	if got, ok := impl.MeetPatterns(q, p); got != want || ok != found {
		t.Errorf("MeetPatterns(%q, %q) is %q, %t, not %q, %t", q, p, got, ok, want, found)
	}
}

// checkMeetFits checks that each of the words fits the meet of p and q just if it fits both.
func checkMeetFits(t *testing.T, p, q string, words []string) {
	t.Helper()
	meet, ok := impl.MeetPatterns(p, q)
	if ok != impl.IsPattern(meet) || !ok && meet != "" {
		t.Errorf("MeetPatterns(%q, %q) is %q, %t", p, q, meet, ok)
	}
	for _, word := range words {
		both := impl.FitsPattern(p, word) && impl.FitsPattern(q, word)
		if got := impl.FitsPattern(meet, word); got != both {
			t.Errorf("that %q fits %q, the meet of %q and %q, is %t", word, meet, p, q, got)
		}
	}
}

func TestIsPattern(t *testing.T) {
	for _, p := range slices.Concat(somePatterns(), patternsOver("az", 5), wordsOver(patternBytes, 2), randomWords(1000)) {
		if !impl.IsPattern(p) {
			t.Errorf("IsPattern(%q) is false", p)
		}
	}
	for _, s := range noPatterns() {
		if impl.IsPattern(s) {
			t.Errorf("IsPattern(%q) is true", s)
		}
	}
}

func TestIsPatternGoesByTheLength(t *testing.T) {
	for _, unit := range []string{"?", "a", "z"} {
		for length := range 300 {
			s := strings.Repeat(unit, length)
			want := length >= 1 && length <= impl.MaxWord
			if got := impl.IsPattern(s); got != want {
				t.Errorf("IsPattern of %d times %s is %t", length, unit, got)
			}
		}
	}
}

func TestIsPatternLooksAtEachByte(t *testing.T) {
	for value := range 256 {
		b := byte(value)
		want := b >= 'a' && b <= 'z' || b == '?'
		for _, s := range withByteAtEachPlace(b) {
			if got := impl.IsPattern(s); got != want {
				t.Errorf("IsPattern(%q) is %t", s, got)
			}
		}
		for _, p := range openPatterns() {
			for place := range len(p) {
				s := p[:place] + string([]byte{b}) + p[place+1:]
				if got := impl.IsPattern(s); got != want {
					t.Errorf("IsPattern(%q) is %t", s, got)
				}
			}
		}
	}
}

func TestFitsPattern(t *testing.T) {
	cases := []struct {
		p, word string
		want    bool
	}{
		{"c?t", "cat", true},
		{"c?t", "cot", true},
		{"c?t", "cct", true},
		{"c?t", "act", false},
		{"c?t", "car", false},
		{"c?t", "bat", false},
		{"c?t", "cats", false},
		{"c?t", "ct", false},
		{"cat", "cat", true},
		{"cat", "cot", false},
		{"cat", "tac", false},
		{"cat", "ca", false},
		{"ca", "cat", false},
		{"?", "a", true},
		{"?", "z", true},
		{"?", "at", false},
		{"??", "a", false},
		{"??", "at", true},
		{"???", "cat", true},
		{"a", "a", true},
		{"a", "z", false},
		{"z", "a", false},
		{"z", "z", true},
		{"????????", "abcdefgh", true},
		{"???????", "abcdefgh", false},
		{"????????", "abcdefg", false},
		{"???????h", "abcdefgh", true},
		{"???????h", "abcdefgi", false},
		{"a???????", "abcdefgh", true},
		{"a???????", "bbcdefgh", false},
		{"abcdefgh", "abcdefgh", true},
		{"abcdefgh", "abcdefgg", false},
		// What is no pattern is fitted by no word.
		{"", "", false},
		{"", "a", false},
		{"C?t", "cat", false},
		{"c#t", "cat", false},
		{"?????????", "abcdefgh", false},
		{"?????????", "abcdefghi", false},
		{"abcdefghi", "abcdefghi", false},
		{"Cat", "Cat", false},
		{"é", "é", false},
		// What is no word fits no pattern, even if it is that pattern.
		{"c?t", "c?t", false},
		{"???", "c?t", false},
		{"???", "???", false},
		{"?", "?", false},
		{"cat", "c?t", false},
		{"?", "", false},
		{"???", "Cat", false},
		{"?a?", "CaT", false},
		{"??", "é", false},
		{"???", "c`t", false},
		{"???", "c{t", false},
		{"?", "A", false},
		{"????????", "crosswords", false},
	}
	for _, c := range cases {
		if got := impl.FitsPattern(c.p, c.word); got != c.want {
			t.Errorf("FitsPattern(%q, %q) is %t", c.p, c.word, got)
		}
	}
}

func TestFitsPatternRejects(t *testing.T) {
	words := slices.Concat(someWords(), randomWords(20))
	for _, s := range noPatterns() {
		for _, word := range append(words, s, strings.ToLower(s)) {
			if impl.FitsPattern(s, word) {
				t.Errorf("FitsPattern(%q, %q) is true", s, word)
			}
		}
	}
	for _, s := range slices.Concat(noWords(), noPatterns(), openPatterns()) {
		for _, p := range append(openPatterns(), s, strings.ToLower(s), "c?t") {
			if impl.FitsPattern(p, s) {
				t.Errorf("FitsPattern(%q, %q) is true", p, s)
			}
		}
	}
}

// A pattern without letters says nothing but the length.
func TestOpenPatternsFitByTheLength(t *testing.T) {
	for _, word := range slices.Concat(someWords(), wordsOver("abz", 4), randomWords(500)) {
		for _, p := range openPatterns() {
			if got := impl.FitsPattern(p, word); got != (len(p) == len(word)) {
				t.Errorf("FitsPattern(%q, %q) is %t", p, word, got)
			}
		}
		for _, other := range []string{word, impl.Backwards(word), "cat"} {
			if got := impl.FitsPattern(word, other); got != (word == other) {
				t.Errorf("FitsPattern(%q, %q) is %t", word, other, got)
			}
		}
	}
}

func TestFitsPatternAtEachPlace(t *testing.T) {
	for length := 1; length <= impl.MaxWord; length++ {
		word := "abcxyzmn"[:length]
		for place := range length {
			for letter := byte('a'); letter <= 'z'; letter++ {
				p := []byte(strings.Repeat("?", length))
				p[place] = letter
				if got := impl.FitsPattern(string(p), word); got != (word[place] == letter) {
					t.Errorf("FitsPattern(%q, %q) is %t", p, word, got)
				}
				full := []byte(word)
				full[place] = letter
				if got := impl.FitsPattern(string(full), word); got != (word[place] == letter) {
					t.Errorf("FitsPattern(%q, %q) is %t", full, word, got)
				}
				full[place] = '?'
				if !impl.FitsPattern(string(full), word) {
					t.Errorf("FitsPattern(%q, %q) is false", full, word)
				}
			}
		}
	}
}

func TestFitsPatternGoesPlaceByPlace(t *testing.T) {
	words := wordsOver("abc", 4)
	for _, p := range patternsOver("ab", 4) {
		for _, word := range words {
			if got, want := impl.FitsPattern(p, word), plainFits(p, word); got != want {
				t.Errorf("FitsPattern(%q, %q) is %t", p, word, got)
			}
		}
	}
	source := rand.New(rand.NewSource(8))
	many := randomWords(2000)
	for i, word := range many {
		for _, p := range []string{opened(word, source), opened(many[(i+1)%len(many)], source), opened(shuffled(word, source), source)} {
			if got, want := impl.FitsPattern(p, word), plainFits(p, word); got != want {
				t.Errorf("FitsPattern(%q, %q) is %t", p, word, got)
			}
		}
	}
}

func TestWordsFitting(t *testing.T) {
	words := []string{"cot", "cat", "act", "cats", "Cat", "cat", "", "c?t", "???", "ct", "a", "cut", "c`t", "café", "abcdefgh", "abcdefghi", "cot"}
	cases := []struct {
		words []string
		p     string
		want  []string
	}{
		{words, "c?t", []string{"cot", "cat", "cat", "cut", "cot"}},
		{words, "???", []string{"cot", "cat", "act", "cat", "cut", "cot"}},
		{words, "cat", []string{"cat", "cat"}},
		{words, "?a?", []string{"cat", "cat"}},
		{words, "cats", []string{"cats"}},
		{words, "????", []string{"cats"}},
		{words, "ca?s", []string{"cats"}},
		{words, "?", []string{"a"}},
		{words, "??", []string{"ct"}},
		{words, "a", []string{"a"}},
		{words, "b", nil},
		{words, "dog", nil},
		{words, "?????", nil},
		{words, "????????", []string{"abcdefgh"}},
		{words, "?????????", nil},
		{words, "", nil},
		{words, "Cat", nil},
		{words, "C?t", nil},
		{words, "c`t", nil},
		{words, "café", nil},
		{words, "caf??", nil},
		{nil, "???", nil},
		{nil, "", nil},
		{[]string{}, "???", nil},
		{[]string{}, "cat", nil},
		{[]string{""}, "", nil},
		{[]string{"?"}, "?", nil},
		{[]string{"a", "a", "a"}, "?", []string{"a", "a", "a"}},
		{[]string{"b", "a", "b", "c"}, "?", []string{"b", "a", "b", "c"}},
	}
	for _, c := range cases {
		if got := impl.WordsFitting(c.words, c.p); !slices.Equal(got, c.want) {
			t.Errorf("WordsFitting(%q, %q) is %q, not %q", c.words, c.p, got, c.want)
		}
	}
	for _, s := range noPatterns() {
		if got := impl.WordsFitting(append(someWords(), s), s); len(got) != 0 {
			t.Errorf("WordsFitting of the words and %q is %q", s, got)
		}
	}
}

func TestWordsFittingKeepsTheOrder(t *testing.T) {
	source := rand.New(rand.NewSource(9))
	many := slices.Concat(someWords(), randomWords(300), strangeStrings(), somePatterns(), someWords())
	source.Shuffle(len(many), func(i, k int) { many[i], many[k] = many[k], many[i] })
	patterns := slices.Concat(somePatterns(), patternsOver("ae", 3), noPatterns()[:40])
	for _, word := range many {
		patterns = append(patterns, opened(word, source))
	}
	for _, p := range patterns {
		var want []string
		for _, word := range many {
			if plainFits(p, word) {
				want = append(want, word)
			}
		}
		if got := impl.WordsFitting(many, p); !slices.Equal(got, want) {
			t.Errorf("WordsFitting(%q) is %q, not %q", p, got, want)
		}
	}
}

func TestMeetPatterns(t *testing.T) {
	cases := []struct{ p, q, want string }{
		{"c??", "??t", "c?t"},
		{"c??", "?a?", "ca?"},
		{"ca?", "?at", "cat"},
		{"c??", "c?t", "c?t"},
		{"c?t", "?a?", "cat"},
		{"???", "cat", "cat"},
		{"c?t", "cat", "cat"},
		{"cat", "cat", "cat"},
		{"c??", "c??", "c??"},
		{"???", "???", "???"},
		{"?", "?", "?"},
		{"?", "a", "a"},
		{"?", "z", "z"},
		{"a", "a", "a"},
		{"????????", "????????", "????????"},
		{"a???????", "???????z", "a??????z"},
		{"a?c?e?g?", "?b?d?f?h", "abcdefgh"},
		{"????????", "abcdefgh", "abcdefgh"},
		{"abcdefg?", "?bcdefgh", "abcdefgh"},
	}
	for _, c := range cases {
		checkMeet(t, c.p, c.q, c.want, true)
	}
}

func TestMeetPatternsRejects(t *testing.T) {
	pairs := [][2]string{
		// Letters differ at a place.
		{"c??", "a??"},
		{"c??", "a?t"},
		{"c?t", "?ar"},
		{"cat", "cot"},
		{"cat", "act"},
		{"a", "z"},
		{"a", "b"},
		{"abcdefgh", "abcdefgi"},
		{"???????h", "???????i"},
		{"a???????", "b???????"},
		{"?????a??", "?????e??"},
		// Lengths differ.
		{"c??", "c?"},
		{"c??", "c???"},
		{"?", "??"},
		{"cat", "cats"},
		{"???????", "????????"},
		{"????????", "?????????"},
		// One or both are no patterns.
		{"", ""},
		{"", "?"},
		{"", "a"},
		{"C", "?"},
		{"C", "C"},
		{"C??", "c??"},
		{"c#t", "c?t"},
		{"c#t", "c#t"},
		{"?????????", "?????????"},
		{"abcdefghi", "?????????"},
		{"é", "é"},
		{"é", "??"},
		{"`", "?"},
		{"{", "?"},
		{"\x00", "?"},
		{"\xff", "?"},
	}
	for _, pair := range pairs {
		checkMeet(t, pair[0], pair[1], "", false)
	}
	for _, s := range noPatterns() {
		for _, p := range slices.Concat([]string{s, strings.ToLower(s), "cat", "c?t"}, openPatterns()) {
			checkMeet(t, s, p, "", false)
		}
	}
}

func TestMeetWithAPatternWithoutLetters(t *testing.T) {
	for _, p := range slices.Concat(somePatterns(), patternsOver("ab", 4)) {
		checkMeet(t, p, p, p, true)
		for _, open := range openPatterns() {
			if len(open) == len(p) {
				checkMeet(t, p, open, p, true)
			} else {
				checkMeet(t, p, open, "", false)
			}
		}
	}
}

func TestMeetAtEachPlace(t *testing.T) {
	for length := 1; length <= impl.MaxWord; length++ {
		word := "abcxyzmn"[:length]
		for place := range length {
			open := word[:place] + "?" + word[place+1:]
			checkMeet(t, open, word, word, true)
			for letter := byte('a'); letter <= 'z'; letter++ {
				full := word[:place] + string([]byte{letter}) + word[place+1:]
				checkMeet(t, open, full, full, true)
				single := strings.Repeat("?", place) + string([]byte{letter}) + strings.Repeat("?", length-place-1)
				checkMeet(t, open, single, full, true)
				if letter == word[place] {
					checkMeet(t, word, single, word, true)
				} else {
					checkMeet(t, word, single, "", false)
					checkMeet(t, word, full, "", false)
				}
			}
		}
	}
}

// Promise 6: the meet of two patterns is fitted by just the words that fit both.
func TestMeetIsFittedByTheWordsThatFitBoth(t *testing.T) {
	words := wordsOver("abc", 3)
	patterns := patternsOver("abc", 3)
	for _, p := range patterns {
		for _, q := range patterns {
			checkMeetFits(t, p, q, words)
			want, found := plainMeet(p, q)
			checkMeet(t, p, q, want, found)
		}
	}
	longer := patternsOver("ab", 4)
	for _, p := range longer {
		for _, q := range longer {
			checkMeetFits(t, p, q, []string{"a", "ab", "aab", "aaaa", "abab", "bbbb", "abba", "baaa", "bbab", "?", "????", ""})
		}
	}
}

// Promise 6, for patterns of each length: one that a word fits, and one that this word or another one fits.
func TestMeetOfManyPatterns(t *testing.T) {
	source := rand.New(rand.NewSource(10))
	many := randomWords(4000)
	for i, word := range many {
		other := many[(i+1)%len(many)]
		near := []byte(word)
		near[source.Intn(len(near))] = byte('a' + source.Intn(26))
		p := opened(word, source)
		for _, from := range []string{word, other, string(near), impl.Backwards(word)} {
			q := opened(from, source)
			want, found := plainMeet(p, q)
			checkMeet(t, p, q, want, found)
			words := []string{word, other, string(near), from, strings.ReplaceAll(p, "?", "q"), strings.ReplaceAll(q, "?", "q"), strings.ReplaceAll(want, "?", "x")}
			checkMeetFits(t, p, q, words)
			both := impl.WordsFitting(impl.WordsFitting(words, p), q)
			if got := impl.WordsFitting(words, want); !slices.Equal(got, both) {
				t.Errorf("the words that fit %q are %q, and those that fit %q and %q are %q", want, got, p, q, both)
			}
		}
	}
}

func TestMeetIsInNoOrder(t *testing.T) {
	source := rand.New(rand.NewSource(11))
	patterns := slices.Concat(patternsOver("ab", 2), []string{"", "C", "c??", "?a?", "??t", "cat", "c?t", "????????", "a???????"})
	for range 20000 {
		p, q, r := patterns[source.Intn(len(patterns))], patterns[source.Intn(len(patterns))], patterns[source.Intn(len(patterns))]
		// The empty string is no pattern, so a meet that is not there has no meet with the third one.
		pq, _ := impl.MeetPatterns(p, q)
		qr, _ := impl.MeetPatterns(q, r)
		left, leftFound := impl.MeetPatterns(pq, r)
		right, rightFound := impl.MeetPatterns(p, qr)
		if left != right || leftFound != rightFound {
			t.Errorf("the meet of %q, %q and %q is %q or %q", p, q, r, left, right)
		}
	}
}

func TestCountOpen(t *testing.T) {
	cases := []struct {
		p    string
		want int
	}{
		{"c??", 2},
		{"cat", 0},
		{"c?t", 1},
		{"?", 1},
		{"a", 0},
		{"z", 0},
		{"???", 3},
		{"????????", 8},
		{"???????a", 7},
		{"a???????", 7},
		{"abcdefgh", 0},
		{"abcdefg?", 1},
		{"?bcdefgh", 1},
		{"a?c?e?g?", 4},
		{"", -1},
		{"C??", -1},
		{"?????????", -1},
		{"abcdefghi", -1},
		{"c#t", -1},
		{"??é", -1},
		{"?`", -1},
		{"?{", -1},
		{"? ?", -1},
	}
	for _, c := range cases {
		if got := impl.CountOpen(c.p); got != c.want {
			t.Errorf("CountOpen(%q) is %d, not %d", c.p, got, c.want)
		}
	}
	for _, s := range noPatterns() {
		if got := impl.CountOpen(s); got != -1 {
			t.Errorf("CountOpen(%q) is %d", s, got)
		}
	}
	for _, p := range slices.Concat(somePatterns(), patternsOver("az", 6)) {
		if got, want := impl.CountOpen(p), strings.Count(p, "?"); got != want {
			t.Errorf("CountOpen(%q) is %d, not %d", p, got, want)
		}
	}
}

func TestLettersAt(t *testing.T) {
	words := []string{"cot", "cat", "act", "cats", "Cat", "zebra", "cat", "", "c?t", "b?", "é", "abcdefgh", "yyyyyyyyy", "a", "dö", "`", "{", "q\x00q"}
	cases := []struct {
		words []string
		at    int
		want  string
	}{
		{words, 0, "acz"},
		{words, 1, "abceo"},
		{words, 2, "bct"},
		{words, 3, "drs"},
		{words, 4, "ae"},
		{words, 5, "f"},
		{words, 6, "g"},
		{words, 7, "h"},
		{words, 8, ""},
		{words, 9, ""},
		{words, -1, ""},
		{words, -8, ""},
		{words, 64, ""},
		{words, 256, ""},
		{words, 1 << 32, ""},
		{words, math.MinInt, ""},
		{words, math.MaxInt, ""},
		{[]string{"cat"}, 0, "c"},
		{[]string{"cat"}, 2, "t"},
		{[]string{"cat"}, 3, ""},
		{[]string{"cat"}, -1, ""},
		{[]string{"cat", "cat", "cat"}, 1, "a"},
		{[]string{"a"}, 0, "a"},
		{[]string{"z"}, 0, "z"},
		{[]string{"z", "a"}, 0, "az"},
		{[]string{"z", "m", "a", "m", "z"}, 0, "amz"},
		{[]string{"at", "cat", "a"}, 1, "at"},
		{[]string{"Cat", "c?t", "", "?", "abcdefghi", "é"}, 0, ""},
		{[]string{"Cat", "c?t", "", "?", "abcdefghi", "é"}, 1, ""},
		{[]string{"abcdefghi"}, 8, ""},
		{[]string{""}, 0, ""},
		{nil, 0, ""},
		{nil, -1, ""},
		{[]string{}, 0, ""},
	}
	for _, c := range cases {
		if got := impl.LettersAt(c.words, c.at); got != c.want {
			t.Errorf("LettersAt(%q, %d) is %q, not %q", c.words, c.at, got, c.want)
		}
	}
}

func TestLettersAtOfEachLetter(t *testing.T) {
	alphabet := "abcdefghijklmnopqrstuvwxyz"
	for place := range impl.MaxWord {
		var words []string
		for i := range alphabet {
			letter := alphabet[len(alphabet)-1-i:][:1]
			word := strings.Repeat("m", place) + letter + strings.Repeat("n", impl.MaxWord-1-place)
			if got := impl.LettersAt([]string{word}, place); got != letter {
				t.Errorf("LettersAt(%q, %d) is %q", word, place, got)
			}
			words = append(words, word)
		}
		if got := impl.LettersAt(words, place); got != alphabet {
			t.Errorf("LettersAt of each letter at %d is %q", place, got)
		}
	}
}

func TestLettersAtPassesOverWhatIsNoWord(t *testing.T) {
	for at := -2; at < 300; at++ {
		if got := impl.LettersAt(slices.Concat(noWords(), noPatterns(), openPatterns(), []string{"c?t", "?a"}), at); got != "" {
			t.Errorf("LettersAt of no words at %d is %q", at, got)
		}
	}
}

func TestLettersAtOfManyWords(t *testing.T) {
	source := rand.New(rand.NewSource(12))
	all := slices.Concat(someWords(), randomWords(200), strangeStrings(), somePatterns())
	for range 500 {
		words := make([]string, source.Intn(12))
		for i := range words {
			words[i] = all[source.Intn(len(all))]
		}
		for at := -1; at <= impl.MaxWord+1; at++ {
			if got, want := impl.LettersAt(words, at), plainLettersAt(words, at); got != want {
				t.Errorf("LettersAt(%q, %d) is %q, not %q", words, at, got, want)
			}
		}
	}
}

func TestPatternsKeepTheirMemory(t *testing.T) {
	whole := []string{"cot", "cat", "act", "cat", "spare", "cut", "cat"}
	before := slices.Clone(whole)
	words := whole[:4]
	for _, p := range []string{"c?t", "???", "cat", "", "?????", "Cat"} {
		got := impl.WordsFitting(words, p)
		got = append(got, "over", "over", "over", "over", "over", "over", "over")
		for i := range got {
			got[i] = "over"
		}
		if !slices.Equal(whole, before) {
			t.Fatalf("WordsFitting(%q) changes its words to %q", p, whole)
		}
	}
	for at := -1; at < 5; at++ {
		impl.LettersAt(words, at)
	}
	if !slices.Equal(whole, before) {
		t.Errorf("LettersAt changes its words to %q", whole)
	}
	// What lies behind the words is no part of them.
	if got := impl.WordsFitting(words, "?u?"); len(got) != 0 {
		t.Errorf("WordsFitting finds %q in the spare capacity", got)
	}
	if got := impl.LettersAt(words, 1); got != "aco" {
		t.Errorf("LettersAt finds %q, some of it in the spare capacity", got)
	}
}

func TestWordsFittingIsNewEachTime(t *testing.T) {
	words := []string{"cot", "cat"}
	first, second := impl.WordsFitting(words, "c?t"), impl.WordsFitting(words, "c?t")
	first = first[:cap(first)]
	for i := range first {
		first[i] = "over"
	}
	if !slices.Equal(second, []string{"cot", "cat"}) || !slices.Equal(words, []string{"cot", "cat"}) {
		t.Errorf("a change of one result makes another one %q, and the words %q", second, words)
	}
	// A change of the words reaches no result that was there before.
	third := impl.WordsFitting(words, "c?t")
	words[0], words[1] = "dog", "dog"
	if !slices.Equal(third, []string{"cot", "cat"}) {
		t.Errorf("a change of the words makes a result %q", third)
	}
}
