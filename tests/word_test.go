package tests

import (
	"cmp"
	"math/rand"
	"slices"
	"strings"
	"testing"

	"loop.example/g03003/impl"
)

// someWords are words of each length, palindromes and words with the same letters among them.
func someWords() []string {
	return []string{"a", "m", "z", "at", "ta", "aa", "zz", "az", "cat", "act", "eve", "zzz", "noon", "tree", "aabb", "abab", "baba",
		"trace", "react", "crate", "level", "kayak", "listen", "silent", "redder", "rotator", "letters", "crossing", "aaaaaaaa", "zzzzzzzz", "abcdefgh", "abcdabcd", "stuvwxyz"}
}

// strangeStrings are strings of each kind that is no word.
func strangeStrings() []string {
	return []string{"", "abcdefghi", "aaaaaaaaa", "zzzzzzzzz", "crosswords", strings.Repeat("a", 100), strings.Repeat("b", 256), strings.Repeat("c", 257), strings.Repeat("d", 264),
		"Cat", "cAt", "caT", "CAT", "A", "Z", "4", "c4t", "c t", " cat", "cat ", "c?t", "?", ".", "c-t", "cat\n", "cat\x00", "\x00",
		"é", "café", "ñandú", "ß", "ａ", "日本", "𝄞", "e\u0301", "\ufffd", "\x80", "\xff", "ca\xe1", "\xe1", "\xc3", "a\xffb"}
}

// noWords are the strange strings, and words in which one letter is replaced by each byte that is no letter.
func noWords() []string {
	strange := strangeStrings()
	for value := range 256 {
		if b := byte(value); b < 'a' || b > 'z' {
			strange = append(strange, withByteAtEachPlace(b)...)
		}
	}
	return strange
}

// withByteAtEachPlace returns strings of 1 to MaxWord bytes that are words but for the byte b at one place.
func withByteAtEachPlace(b byte) []string {
	var made []string
	for length := 1; length <= impl.MaxWord; length++ {
		for place := range length {
			letters := []byte("abcxyzmn"[:length])
			letters[place] = b
			made = append(made, string(letters))
		}
	}
	return made
}

// wordsOver returns all words of at most longest of the letters.
func wordsOver(letters string, longest int) []string {
	var all []string
	last := []string{""}
	for range longest {
		var longer []string
		for _, w := range last {
			for i := range len(letters) {
				longer = append(longer, w+letters[i:i+1])
			}
		}
		all = append(all, longer...)
		last = longer
	}
	return all
}

// randomWords are words of each length, of few letters and of all of them.
func randomWords(count int) []string {
	source := rand.New(rand.NewSource(5))
	words := make([]string, count)
	for i := range words {
		letters := make([]byte, 1+source.Intn(impl.MaxWord))
		kinds := 1 + source.Intn(26)
		for k := range letters {
			letters[k] = byte('a' + source.Intn(kinds))
		}
		words[i] = string(letters)
	}
	return words
}

// sortedLetters returns the bytes of a string in ascending order.
func sortedLetters(s string) string {
	letters := []byte(s)
	slices.Sort(letters)
	return string(letters)
}

// shuffled returns a word with its letters in an order that the source chooses.
func shuffled(word string, source *rand.Rand) string {
	letters := []byte(word)
	source.Shuffle(len(letters), func(i, k int) { letters[i], letters[k] = letters[k], letters[i] })
	return string(letters)
}

func TestMaxWord(t *testing.T) {
	if impl.MaxWord != 8 {
		t.Errorf("MaxWord is %d", impl.MaxWord)
	}
}

func TestIsWord(t *testing.T) {
	words := slices.Concat(someWords(), wordsOver("abcdefghijklmnopqrstuvwxyz", 2), randomWords(2000))
	for _, w := range words {
		if !impl.IsWord(w) {
			t.Errorf("IsWord(%q) is false", w)
		}
	}
	for _, s := range noWords() {
		if impl.IsWord(s) {
			t.Errorf("IsWord(%q) is true", s)
		}
	}
}

func TestIsWordGoesByTheLength(t *testing.T) {
	for letter := byte('a'); letter <= 'z'; letter++ {
		for length := range 300 {
			s := strings.Repeat(string(rune(letter)), length)
			want := length >= 1 && length <= impl.MaxWord
			if got := impl.IsWord(s); got != want {
				t.Errorf("IsWord of %d letters %c is %t", length, letter, got)
			}
		}
	}
}

func TestBackwards(t *testing.T) {
	cases := []struct{ s, want string }{
		{"", ""},
		{"a", "a"},
		{"at", "ta"},
		{"trace", "ecart"},
		{"stressed", "desserts"},
		{"crosswords", "sdrowssorc"},
		{"Cat 4?", "?4 taC"},
		{"level", "level"},
		{"noon", "noon"},
		{"redder", "redder"},
		{"\x00a\xff", "\xffa\x00"},
		{"\x80\xff", "\xff\x80"},
		{"é", "\xa9\xc3"},
		{"aé", "\xa9\xc3a"},
		{"日", "\xa5\x97\xe6"},
		{"\ufffd", "\xbd\xbf\xef"},
	}
	for _, c := range cases {
		if got := impl.Backwards(c.s); got != c.want {
			t.Errorf("Backwards(%q) is %q, not %q", c.s, got, c.want)
		}
	}
}

func TestBackwardsOfLongStrings(t *testing.T) {
	for length := 2; length < 600; length++ {
		middle := strings.Repeat("m", length-2)
		want := ""
		if length <= 100 {
			want = "z" + middle + "x"
		}
		if got := impl.Backwards("x" + middle + "z"); got != want {
			t.Errorf("Backwards of %d bytes is %q, not %q", length, got, want)
		}
	}
	// What counts are bytes: 50 of these characters are 100 bytes, and 51 are too many.
	if got := impl.Backwards(strings.Repeat("é", 50)); got != strings.Repeat("\xa9\xc3", 50) {
		t.Errorf("Backwards of 50 characters of two bytes is %q", got)
	}
	if got := impl.Backwards(strings.Repeat("é", 51)); got != "" {
		t.Errorf("Backwards of 51 characters of two bytes is %q", got)
	}
}

func TestBackwardsTwiceLeadsBack(t *testing.T) {
	strange := slices.Concat(someWords(), randomWords(1000), slices.DeleteFunc(noWords(), func(s string) bool { return len(s) > 100 }))
	source := rand.New(rand.NewSource(6))
	for length := range 101 {
		b := make([]byte, length)
		source.Read(b)
		strange = append(strange, string(b))
	}
	for _, s := range strange {
		turned := impl.Backwards(s)
		if got := impl.Backwards(turned); got != s {
			t.Errorf("Backwards twice of %q is %q", s, got)
		}
		for i := range len(s) {
			if turned[i] != s[len(s)-1-i] {
				t.Errorf("Backwards(%q) has byte %d at %d", s, turned[i], i)
			}
		}
	}
}

func TestPalindromes(t *testing.T) {
	for _, w := range []string{"a", "z", "aa", "eve", "noon", "level", "kayak", "redder", "rotator", "abcddcba", "aaaaaaaa"} {
		if got := impl.Backwards(w); got != w {
			t.Errorf("Backwards(%q) is %q", w, got)
		}
		if impl.IsRearranged(w, impl.Backwards(w)) {
			t.Errorf("%q is rearranged by Backwards", w)
		}
	}
	for _, w := range []string{"at", "aab", "abb", "abab", "trace", "stressed", "aaaaaaab"} {
		if !impl.IsRearranged(w, impl.Backwards(w)) {
			t.Errorf("%q is not rearranged by Backwards", w)
		}
	}
	for _, w := range wordsOver("ab", impl.MaxWord) {
		if got := impl.IsRearranged(w, impl.Backwards(w)); got != (impl.Backwards(w) != w) {
			t.Errorf("that %q is rearranged by Backwards is %t", w, got)
		}
	}
}

func TestSortLetters(t *testing.T) {
	cases := []struct{ s, want string }{
		{"a", "a"},
		{"z", "z"},
		{"at", "at"},
		{"ta", "at"},
		{"za", "az"},
		{"tree", "eert"},
		{"trace", "acert"},
		{"react", "acert"},
		{"level", "eellv"},
		{"stressed", "deerssst"},
		{"abcdefgh", "abcdefgh"},
		{"hgfedcba", "abcdefgh"},
		{"zyxwvuts", "stuvwxyz"},
		{"mmmmmmmm", "mmmmmmmm"},
	}
	for _, c := range cases {
		if got := impl.SortLetters(c.s); got != c.want {
			t.Errorf("SortLetters(%q) is %q, not %q", c.s, got, c.want)
		}
	}
	for _, s := range noWords() {
		if got := impl.SortLetters(s); got != "" {
			t.Errorf("SortLetters(%q) is %q", s, got)
		}
	}
}

func TestSortLettersKeepsEachLetter(t *testing.T) {
	for _, w := range slices.Concat(someWords(), wordsOver("abz", 5), randomWords(2000)) {
		got := impl.SortLetters(w)
		if want := sortedLetters(w); got != want {
			t.Errorf("SortLetters(%q) is %q, not %q", w, got, want)
		}
		if again := impl.SortLetters(got); again != got {
			t.Errorf("SortLetters(%q) is %q", got, again)
		}
		if turned := impl.SortLetters(impl.Backwards(w)); turned != got {
			t.Errorf("SortLetters of %q backwards is %q", w, turned)
		}
	}
}

func TestIsRearranged(t *testing.T) {
	cases := []struct {
		a, b string
		want bool
	}{
		{"trace", "react", true},
		{"trace", "crate", true},
		{"at", "ta", true},
		{"az", "za", true},
		{"aabb", "abab", true},
		{"aaaaaaab", "baaaaaaa", true},
		{"abcdefgh", "hgfedcba", true},
		{"a", "a", false},
		{"cat", "cat", false},
		{"level", "level", false},
		{"zzzzzzzz", "zzzzzzzz", false},
		{"a", "b", false},
		{"cat", "cats", false},
		{"cat", "ct", false},
		{"a", "aa", false},
		{"aab", "abb", false},
		{"aabb", "aaab", false},
		{"aabb", "abc", false},
		{"ac", "bb", false},
		{"ad", "bc", false},
		{"aabbcc", "abc", false},
		{"abc", "abcabc", false},
		{"trace", "tracy", false},
	}
	for _, c := range cases {
		if got := impl.IsRearranged(c.a, c.b); got != c.want {
			t.Errorf("IsRearranged(%q, %q) is %t", c.a, c.b, got)
		}
		if got := impl.IsRearranged(c.b, c.a); got != c.want {
			t.Errorf("IsRearranged(%q, %q) is %t", c.b, c.a, got)
		}
	}
}

// Any two strings that are no words have the same SortLetters, and are no rearranged words all the same.
func TestIsRearrangedOfNoWords(t *testing.T) {
	strange := noWords()
	for i, s := range strange {
		turned := impl.Backwards(s)
		for _, other := range []string{s, turned, "cat", "a", "", strange[(i+1)%len(strange)], strange[len(strange)-1-i]} {
			if impl.IsRearranged(s, other) || impl.IsRearranged(other, s) {
				t.Errorf("%q and %q are rearranged", s, other)
			}
		}
	}
	pairs := [][2]string{{"abcdefghi", "ihgfedcba"}, {"Cat", "aCt"}, {"c t", "t c"}, {"c?", "?c"}, {"é", "\xa9\xc3"}, {"`a", "a`"}, {"{a", "a{"}}
	for _, p := range pairs {
		if impl.IsRearranged(p[0], p[1]) {
			t.Errorf("%q and %q are rearranged", p[0], p[1])
		}
	}
}

func TestRearrangedWordsHaveTheSameLetters(t *testing.T) {
	words := slices.Concat(someWords(), wordsOver("abc", 4), wordsOver("yz", 5))
	for _, a := range words {
		for _, b := range words {
			want := a != b && sortedLetters(a) == sortedLetters(b)
			if got := impl.IsRearranged(a, b); got != want {
				t.Errorf("IsRearranged(%q, %q) is %t", a, b, got)
			}
		}
	}
}

func TestRearrangedWordsHaveEachLetterAsOften(t *testing.T) {
	source := rand.New(rand.NewSource(7))
	for _, a := range randomWords(3000) {
		b := shuffled(a, source)
		if got := impl.IsRearranged(a, b); got != (a != b) {
			t.Errorf("IsRearranged(%q, %q) is %t", a, b, got)
		}
		for letter := 'a'; letter <= 'z'; letter++ {
			if impl.CountLetter(a, string(letter)) != impl.CountLetter(b, string(letter)) {
				t.Errorf("%q and %q have %c in other numbers", a, b, letter)
			}
		}
		changed := []byte(b)
		changed[source.Intn(len(changed))] = byte('a' + source.Intn(26))
		want := a != string(changed) && sortedLetters(a) == sortedLetters(string(changed))
		if got := impl.IsRearranged(a, string(changed)); got != want {
			t.Errorf("IsRearranged(%q, %q) is %t", a, changed, got)
		}
	}
}

func TestCountLetter(t *testing.T) {
	cases := []struct {
		s, letter string
		want      int
	}{
		{"tree", "e", 2},
		{"tree", "t", 1},
		{"tree", "x", 0},
		{"a", "a", 1},
		{"a", "z", 0},
		{"z", "z", 1},
		{"level", "l", 2},
		{"abcdefgh", "a", 1},
		{"abcdefgh", "h", 1},
		{"stressed", "s", 3},
		{"aaaaaaaa", "a", 8},
		{"zzzzzzzz", "z", 8},
		{"zzzzzzzz", "a", 0},
	}
	for _, c := range cases {
		if got := impl.CountLetter(c.s, c.letter); got != c.want {
			t.Errorf("CountLetter(%q, %q) is %d, not %d", c.s, c.letter, got, c.want)
		}
	}
}

func TestCountLetterCountsEachPlaceOnce(t *testing.T) {
	for _, w := range slices.Concat(someWords(), randomWords(2000)) {
		sum := 0
		for letter := 'a'; letter <= 'z'; letter++ {
			got := impl.CountLetter(w, string(letter))
			if want := strings.Count(w, string(letter)); got != want {
				t.Errorf("CountLetter(%q, %q) is %d, not %d", w, letter, got, want)
			}
			sum += got
		}
		if sum != len(w) {
			t.Errorf("CountLetter counts %d letters in %q", sum, w)
		}
	}
}

func TestCountLetterRejects(t *testing.T) {
	letters := []string{"", "ee", "tr", "tree", "te", "e ", " e", "E", "T", "1", "?", "\n", "é", "e\u0301", "日", "𝄞", "\ufffd", "ｅ"}
	for value := range 256 {
		if b := byte(value); b < 'a' || b > 'z' {
			letters = append(letters, string([]byte{b}), string([]byte{b, 'e'}), string([]byte{'e', b}))
		}
	}
	for _, w := range []string{"tree", "a", "abcdefgh", "eeeeeeee", "", "Tree", "tréé", "\xe9", "`{"} {
		for _, letter := range letters {
			if got := impl.CountLetter(w, letter); got != 0 {
				t.Errorf("CountLetter(%q, %q) is %d", w, letter, got)
			}
		}
	}
	for _, s := range noWords() {
		for letter := 'a'; letter <= 'z'; letter++ {
			if got := impl.CountLetter(s, string(letter)); got != 0 {
				t.Errorf("CountLetter(%q, %q) is %d", s, letter, got)
			}
		}
	}
}

func TestBeforeWord(t *testing.T) {
	cases := []struct {
		a, b string
		want bool
	}{
		{"a", "b", true},
		{"b", "a", false},
		{"a", "a", false},
		{"cat", "cat", false},
		{"z", "aa", true},
		{"aa", "z", false},
		{"ca", "cat", true},
		{"cat", "ca", false},
		{"abcdefgh", "abcdefgi", true},
		{"abcdefgi", "abcdefgh", false},
		{"bat", "cat", true},
		{"zzzzzzz", "aaaaaaaa", true},
		{"aaaaaaaa", "zzzzzzz", false},
		{"", "", false},
		{"", "a", true},
		{"a", "", false},
		{"", "\x00", true},
		{"Z", "a", true},
		{"a", "Z", false},
		{"cat", "cat?", true},
		{"c?t", "cat", true},
		{"cat", "c?t", false},
		{"abcdefghi", "abcdefghj", true},
		{"zzzzzzzz", "abcdefghi", true},
		{"z", "\x80", true},
		{"\x7f", "\x80", true},
		{"\x80", "\x7f", false},
		{"\xfe", "\xff", true},
		{"\xff", "\x00\x00", true},
		// Each of these characters has more bytes than the next string.
		{"é", "z", false},
		{"日", "zz", false},
		{"zz", "日", true},
		{"zz", "é", true},
		{"\xff", "\ufffd", true},
	}
	for _, c := range cases {
		if got := impl.BeforeWord(c.a, c.b); got != c.want {
			t.Errorf("BeforeWord(%q, %q) is %t", c.a, c.b, got)
		}
	}
}

func TestBeforeWordIsAnOrder(t *testing.T) {
	strange := slices.Concat(someWords(), wordsOver("abz", 3), strangeStrings(), []string{strings.Repeat("a", 1000), strings.Repeat("a", 999) + "b"})
	for _, a := range strange {
		for _, b := range strange {
			want := cmp.Or(cmp.Compare(len(a), len(b)), slices.Compare([]byte(a), []byte(b))) < 0
			if got := impl.BeforeWord(a, b); got != want {
				t.Errorf("BeforeWord(%q, %q) is %t", a, b, got)
			}
			if impl.BeforeWord(a, b) && impl.BeforeWord(b, a) || !impl.BeforeWord(a, b) && !impl.BeforeWord(b, a) && a != b {
				t.Errorf("of %q and %q, not just one is before the other", a, b)
			}
		}
	}
}
