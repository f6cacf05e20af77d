package tests

import (
	"fmt"
	"slices"
	"strings"
	"testing"
	"unsafe"

	"loop.example/g03003/impl"
)

// partWords are words of each length, with all orders of two letters among them.
func partWords() []string {
	return slices.Concat(someWords(), wordsOver("ab", impl.MaxWord), wordsOver("abcdefghijklmnopqrstuvwxyz", 2), randomWords(2000))
}

// partNoWords are strings that are no words: the empty one, letters of each length that is too long, and others.
func partNoWords() []string {
	strange := noWords()
	for length := impl.MaxWord + 1; length < 300; length++ {
		strange = append(strange, strings.Repeat("abc", 100)[:length])
	}
	return strange
}

// plainSplits cuts a word between all of its letters.
func plainSplits(w string) [][]string {
	splits := [][]string{}
	for place := 1; place < len(w); place++ {
		splits = append(splits, []string{w[:place], w[place:]})
	}
	return splits
}

// plainInside reports whether part stands in w with letters on both sides.
func plainInside(part, w string) bool {
	for place := 1; place+len(part) < len(w); place++ {
		if w[place:place+len(part)] == part {
			return true
		}
	}
	return false
}

// plainInsertions puts inner between all letters of outer.
func plainInsertions(outer, inner string) []string {
	made := []string{}
	for _, parts := range plainSplits(outer) {
		made = append(made, strings.Join(parts, inner))
	}
	return plainOnce(made)
}

// isInsertion reports whether inner can be taken out of s, with letters on both sides, so that outer is left.
func isInsertion(s, outer, inner string) bool {
	for place := 1; place+len(inner) < len(s); place++ {
		end := place + len(inner)
		if s[place:end] == inner && s[:place]+s[end:] == outer {
			return true
		}
	}
	return false
}

// checkHeads checks what is left of a string by HeadOf, WithoutHead and WithoutTail.
func checkHeads(t *testing.T, w, head, withoutHead, withoutTail string) {
	t.Helper()
	if got := impl.HeadOf(w); got != head {
		t.Errorf("HeadOf(%q) is %q, not %q", w, got, head)
	}
	if got := impl.WithoutHead(w); got != withoutHead {
		t.Errorf("WithoutHead(%q) is %q, not %q", w, got, withoutHead)
	}
	if got := impl.WithoutTail(w); got != withoutTail {
		t.Errorf("WithoutTail(%q) is %q, not %q", w, got, withoutTail)
	}
}

// checkInside checks IsInside.
func checkInside(t *testing.T, part, w string, want bool) {
	t.Helper()
	if got := impl.IsInside(part, w); got != want {
		t.Errorf("IsInside(%q, %q) is %t", part, w, got)
	}
}

// checkInsertions checks Insertions.
func checkInsertions(t *testing.T, outer, inner string, want []string) {
	t.Helper()
	if got := impl.Insertions(outer, inner); !slices.Equal(got, want) {
		t.Errorf("Insertions(%q, %q) are %q, not %q", outer, inner, got, want)
	}
}

// checkSplits checks SplitsOf.
func checkSplits(t *testing.T, w string, want [][]string) {
	t.Helper()
	if got := impl.SplitsOf(w); !sameDomains(got, want) {
		t.Errorf("SplitsOf(%q) are %q, not %q", w, got, want)
	}
}

func TestHeads(t *testing.T) {
	cases := []struct{ w, head, withoutHead, withoutTail string }{
		{"a", "a", "", ""},
		{"z", "z", "", ""},
		{"at", "a", "t", "a"},
		{"aa", "a", "a", "a"},
		{"cat", "c", "at", "ca"},
		{"eve", "e", "ve", "ev"},
		{"trace", "t", "race", "trac"},
		{"letters", "l", "etters", "letter"},
		{"abcdefg", "a", "bcdefg", "abcdef"},
		{"stressed", "s", "tressed", "stresse"},
		{"abcdefgh", "a", "bcdefgh", "abcdefg"},
		{"zzzzzzzz", "z", "zzzzzzz", "zzzzzzz"},
	}
	for _, c := range cases {
		checkHeads(t, c.w, c.head, c.withoutHead, c.withoutTail)
	}
	for _, w := range partWords() {
		checkHeads(t, w, w[:1], w[1:], w[:len(w)-1])
	}
}

func TestHeadsOfNoWords(t *testing.T) {
	for _, s := range partNoWords() {
		checkHeads(t, s, "", "", "")
	}
}

func TestHeadsGoByTheLength(t *testing.T) {
	for length := range 300 {
		w := strings.Repeat("m", length)
		if length == 0 || length > impl.MaxWord {
			checkHeads(t, w, "", "", "")
		} else {
			checkHeads(t, w, "m", strings.Repeat("m", length-1), strings.Repeat("m", length-1))
		}
	}
}

func TestHeadsPutAWordTogetherAgain(t *testing.T) {
	for _, w := range partWords() {
		if got := impl.HeadOf(w) + impl.WithoutHead(w); got != w {
			t.Errorf("the head of %q and the rest make %q", w, got)
		}
		// The tail of a word is its head from behind.
		tail := impl.HeadOf(impl.Backwards(w))
		if got := impl.WithoutTail(w) + tail; got != w {
			t.Errorf("%q without its tail, and the tail, make %q", w, got)
		}
		if got := impl.Backwards(impl.WithoutHead(impl.Backwards(w))); got != impl.WithoutTail(w) {
			t.Errorf("%q without its head from behind is %q", w, got)
		}
		if len(w) < 2 {
			continue
		}
		// Both ends of a word with two letters or more can be cut off, in each order.
		if got := impl.HeadOf(w) + impl.WithoutTail(impl.WithoutHead(w)) + tail; got != w {
			t.Errorf("%q without both ends, and the ends, make %q", w, got)
		}
		if got := impl.HeadOf(w) + impl.WithoutHead(impl.WithoutTail(w)) + tail; got != w {
			t.Errorf("%q without its tail and its head, and both, make %q", w, got)
		}
	}
}

func TestAWordIsCutLetterByLetter(t *testing.T) {
	for _, w := range partWords() {
		heads, front, back := "", w, w
		for range w {
			heads += impl.HeadOf(front)
			front, back = impl.WithoutHead(front), impl.WithoutTail(back)
		}
		if heads != w || front != "" || back != "" {
			t.Errorf("the heads of %q make %q, and %q and %q are left", w, heads, front, back)
		}
	}
}

var insideCases = []struct {
	name    string
	part, w string
	want    bool
}{
	{"in the middle only", "rac", "trace", true},
	{"one letter in the middle", "r", "trace", true},
	{"all but both ends", "are", "pared", true},
	{"all but both ends of eight letters", "bcdefg", "abcdefgh", true},
	{"one letter of three", "a", "cat", true},
	{"at the beginning only", "tra", "trace", false},
	{"the head", "t", "trace", false},
	{"without the tail", "trac", "trace", false},
	{"at the end only", "ace", "trace", false},
	{"the tail", "e", "trace", false},
	{"without the head", "race", "trace", false},
	{"at the beginning and at the end only", "on", "onion", false},
	{"one letter at both ends only", "e", "eve", false},
	{"at both ends, which overlap", "aba", "ababa", false},
	{"at both ends, which touch", "tar", "tartar", false},
	{"at the beginning and in the middle", "ab", "abcabc", true},
	{"at the end and in the middle", "bc", "abcabc", true},
	{"at both ends and in the middle", "na", "nananana", true},
	{"one letter at both ends and in the middle", "a", "abaca", true},
	{"one letter everywhere", "a", "aaa", true},
	{"one letter at all places of two", "a", "aa", false},
	{"overlaps itself at both ends", "aa", "aaa", false},
	{"overlaps itself, once in the middle", "aa", "aaaa", true},
	{"overlaps itself, once after the beginning", "aa", "baaa", true},
	{"overlaps itself, once before the end", "aa", "aaab", true},
	{"overlaps itself before the end", "ana", "banana", true},
	{"overlaps itself after the beginning", "ana", "ananab", true},
	{"overlaps itself in the middle", "ana", "cananas", true},
	{"begins in vain before it stands there", "aab", "baaabb", true},
	{"begins in vain just before it stands there", "abac", "xababacx", true},
	{"seven of eight letters", "aaaaaaa", "aaaaaaaa", false},
	{"six of eight letters", "aaaaaa", "aaaaaaaa", true},
	{"six of seven letters", "aaaaaa", "aaaaaaa", false},
	{"five of seven letters", "bcdef", "abcdefg", true},
	{"the word itself", "trace", "trace", false},
	{"a word of one letter itself", "a", "a", false},
	{"a word of two letters itself", "at", "at", false},
	{"a word of eight letters itself", "abcdefgh", "abcdefgh", false},
	{"another word as long", "react", "trace", false},
	{"another word of one letter", "a", "b", false},
	{"a longer word", "traced", "trace", false},
	{"the word in a longer one", "trace", "cat", false},
	{"a longer word around the word", "cats", "at", false},
	{"nowhere", "x", "trace", false},
	{"not in one piece", "tae", "trace", false},
	{"backwards", "car", "trace", false},
	{"across the ends", "et", "trace", false},
	{"the empty part", "", "cat", false},
	{"the empty part of a word of one letter", "", "a", false},
	{"the empty word", "cat", "", false},
	{"one letter and the empty word", "a", "", false},
	{"both empty", "", "", false},
	{"a capital letter", "A", "cAt", false},
	{"a capital letter of a word", "A", "cat", false},
	{"a letter of no word", "a", "Cat", false},
	{"a letter of what ends in a capital letter", "a", "caT", false},
	{"a blank", " ", "c t", false},
	{"an open place", "?", "c?t", false},
	{"an open place of a word", "?", "cat", false},
	{"a letter beside an open place", "a", "ca?t", false},
	{"a character of two bytes", "é", "pér", false},
	{"a byte of a character", "\xc3", "pér", false},
	{"a letter beside a character", "t", "été", false},
	{"a letter in a string that is too long", "e", "abcdefghi", false},
	{"a part that is too long", "bcdefghij", "abcdefghijk", false},
	{"a part that is too long for a word", "abcdefghi", "abcdefgh", false},
	{"a byte of zero", "\x00", "a\x00b", false},
}

func TestIsInsideCases(t *testing.T) {
	for _, c := range insideCases {
		t.Run(c.name, func(t *testing.T) { checkInside(t, c.part, c.w, c.want) })
	}
}

func TestIsInsideOfManyWords(t *testing.T) {
	words := slices.Concat(someWords(), wordsOver("ab", 6), wordsOver("abc", 4))
	for _, part := range words {
		for _, w := range words {
			checkInside(t, part, w, plainInside(part, w))
		}
	}
}

func TestIsInsideOfEachPart(t *testing.T) {
	for _, w := range slices.Concat(someWords(), randomWords(500)) {
		for from := range len(w) {
			for to := from + 1; to <= len(w); to++ {
				part := w[from:to]
				checkInside(t, part, w, plainInside(part, w))
				if from > 0 && to < len(w) {
					checkInside(t, part, w, true)
				}
			}
		}
	}
}

// What stands between the ends of a word is inside of it, and is not inside any more where an end goes on to it.
func TestIsInsideNeedsALetterOnBothSides(t *testing.T) {
	for _, part := range slices.Concat(wordsOver("ab", 6), wordsOver("xyz", 3)) {
		checkInside(t, part, part, false)
		checkInside(t, part, "m"+part, false)
		checkInside(t, part, part+"m", false)
		checkInside(t, part, "m"+part+"n", true)
		checkInside(t, part, "m"+part[:len(part)-1]+"n", false)
		checkInside(t, part, "m"+part[1:]+"n", false)
	}
}

func TestIsInsideOfNoWords(t *testing.T) {
	for _, s := range partNoWords() {
		for _, other := range []string{s, "", "a", "at", "cat", "abcdefg", "abcdefgh"} {
			checkInside(t, s, other, false)
			checkInside(t, other, s, false)
		}
		// The part stands there all the same.
		checkInside(t, s, "a"+s+"b", false)
		if len(s) > 2 {
			checkInside(t, s[1:len(s)-1], s, false)
			checkInside(t, s[1:2], s, false)
		}
	}
}

var insertionCases = []struct{ name, outer, inner, want string }{
	{"one letter in three", "cat", "r", "crat cart"},
	{"two letters in two", "at", "re", "aret"},
	{"an outer word of one letter", "a", "b", ""},
	{"an outer word of one letter and the same inner one", "a", "a", ""},
	{"an outer word of one letter and eight inner ones", "a", "abcdefgh", ""},
	{"an outer word of two letters", "ab", "c", "acb"},
	{"an outer word of two letters and the same inner one", "ab", "ab", "aabb"},
	{"an outer word of two letters that are the same", "aa", "b", "aba"},
	{"an outer word of two letters and eight inner ones", "xy", "abcdefgh", "xabcdefghy"},
	{"the same string at two places next to each other", "aab", "a", "aaab"},
	{"the same string at the last two places", "baa", "a", "baaa"},
	{"the same string at all places", "aaa", "a", "aaaa"},
	{"the same string at all places of eight letters", "aaaaaaaa", "a", "aaaaaaaaa"},
	{"the same string of longer parts at all places", "aaaa", "aaa", "aaaaaaa"},
	{"a double letter", "tree", "e", "teree treee"},
	{"the same string at two places, and another one between", "ababc", "ab", "aabbabc abababc abaabbc"},
	{"the same string at the first and the last place only", "xabcy", "abc", "xabcabcy xaabcbcy xababccy"},
	{"the same string at the first three places", "abbcccd", "b", "abbbcccd abbcbccd abbccbcd abbcccbd"},
	{"the same string at each second place", "cabababd", "ab", "cababababd caabbababd cabaabbabd cababaabbd"},
	{"seven letters", "abcdefg", "x", "axbcdefg abxcdefg abcxdefg abcdxefg abcdexfg abcdefxg"},
	{"a result of nine letters", "abcdefgh", "x", "axbcdefgh abxcdefgh abcxdefgh abcdxefgh abcdexfgh abcdefxgh abcdefgxh"},
	{"a result of eight letters", "abc", "vwxyz", "avwxyzbc abvwxyzc"},
	{"results of sixteen letters", "abcdefgh", "stuvwxyz",
		"astuvwxyzbcdefgh abstuvwxyzcdefgh abcstuvwxyzdefgh abcdstuvwxyzefgh abcdestuvwxyzfgh abcdefstuvwxyzgh abcdefgstuvwxyzh"},
	{"not before the first letter or behind the last one", "ab", "ba", "abab"},
	{"an empty inner word", "cat", "", ""},
	{"an empty outer word", "", "r", ""},
	{"both empty", "", "", ""},
	{"a capital letter inside", "cat", "R", ""},
	{"a capital letter outside", "Cat", "r", ""},
	{"a string that is too long inside", "cat", "abcdefghi", ""},
	{"a string that is too long outside", "abcdefghi", "r", ""},
	{"a character of two bytes inside", "cat", "é", ""},
	{"a character of two bytes outside", "été", "r", ""},
	{"an open place inside", "cat", "?", ""},
	{"an open place outside", "c?t", "r", ""},
	{"an inner word in capitals, and an outer one", "CAT", "R", ""},
}

func TestInsertionsCases(t *testing.T) {
	for _, c := range insertionCases {
		t.Run(c.name, func(t *testing.T) { checkInsertions(t, c.outer, c.inner, strings.Fields(c.want)) })
	}
}

func TestInsertionsOfManyWords(t *testing.T) {
	words := slices.Concat(someWords(), wordsOver("ab", 5), wordsOver("abc", 3), randomWords(60))
	for _, outer := range words {
		for _, inner := range words {
			checkInsertions(t, outer, inner, plainInsertions(outer, inner))
		}
	}
}

func TestInsertionsAmongAllStrings(t *testing.T) {
	words := wordsOver("ab", impl.MaxWord/2)
	for _, outer := range words {
		for _, inner := range words {
			want := []string{}
			for _, s := range wordsOver("ab", len(outer)+len(inner)) {
				if isInsertion(s, outer, inner) {
					want = append(want, s)
				}
			}
			got := impl.Insertions(outer, inner)
			slices.Sort(got)
			slices.Sort(want)
			if !slices.Equal(got, want) {
				t.Errorf("Insertions(%q, %q) are, sorted, %q, not %q", outer, inner, got, want)
			}
		}
	}
}

func TestWhatIsInsertedIsInside(t *testing.T) {
	words := slices.Concat(someWords(), wordsOver("ab", 4), randomWords(60))
	for _, outer := range words {
		for _, inner := range words {
			for _, made := range impl.Insertions(outer, inner) {
				if len(made) != len(outer)+len(inner) {
					t.Errorf("%q has %d letters, which are not those of %q and %q", made, len(made), outer, inner)
				}
				checkInside(t, inner, made, len(made) <= impl.MaxWord)
			}
		}
	}
}

func TestInsertionsOfNoWords(t *testing.T) {
	for _, s := range partNoWords() {
		for _, other := range []string{s, "", "a", "at", "cat", "abcdefg", "abcdefgh"} {
			checkInsertions(t, s, other, nil)
			checkInsertions(t, other, s, nil)
		}
	}
}

func TestInsertionsGoByTheLength(t *testing.T) {
	for outer := range 12 {
		for inner := range 12 {
			want := []string{}
			if outer >= 2 && outer <= impl.MaxWord && inner >= 1 && inner <= impl.MaxWord {
				want = []string{strings.Repeat("m", outer+inner)}
			}
			checkInsertions(t, strings.Repeat("m", outer), strings.Repeat("m", inner), want)
		}
	}
}

func TestSplitsCases(t *testing.T) {
	cases := []struct{ w, want string }{
		{"a", ""},
		{"z", ""},
		{"at", "a,t"},
		{"aa", "a,a"},
		{"cat", "c,at ca,t"},
		{"aaa", "a,aa aa,a"},
		{"noon", "n,oon no,on noo,n"},
		{"abab", "a,bab ab,ab aba,b"},
		{"trace", "t,race tr,ace tra,ce trac,e"},
		{"abcdefg", "a,bcdefg ab,cdefg abc,defg abcd,efg abcde,fg abcdef,g"},
		{"abcdefgh", "a,bcdefgh ab,cdefgh abc,defgh abcd,efgh abcde,fgh abcdef,gh abcdefg,h"},
		{"zzzzzzzz", "z,zzzzzzz zz,zzzzzz zzz,zzzzz zzzz,zzzz zzzzz,zzz zzzzzz,zz zzzzzzz,z"},
	}
	for _, c := range cases {
		want := [][]string{}
		for _, parts := range strings.Fields(c.want) {
			want = append(want, strings.Split(parts, ","))
		}
		checkSplits(t, c.w, want)
	}
}

func TestSplitsOfManyWords(t *testing.T) {
	for _, w := range partWords() {
		checkSplits(t, w, plainSplits(w))
	}
}

func TestSplitsOfNoWords(t *testing.T) {
	for _, s := range partNoWords() {
		checkSplits(t, s, nil)
	}
}

func TestSplitsPutAWordTogetherAgain(t *testing.T) {
	for _, w := range partWords() {
		splits := impl.SplitsOf(w)
		if len(splits) != len(w)-1 {
			t.Errorf("%q is split in %d ways", w, len(splits))
		}
		for i, parts := range splits {
			if len(parts) != 2 || strings.Join(parts, "") != w {
				t.Fatalf("the split %d of %q is %q", i, w, parts)
			}
			if len(parts[0]) != i+1 || !impl.IsWord(parts[0]) || !impl.IsWord(parts[1]) {
				t.Errorf("the split %d of %q has the parts %q", i, w, parts)
			}
		}
	}
}

func TestSplitsBeginWithTheHeadAndEndWithTheTail(t *testing.T) {
	for _, w := range partWords() {
		splits := impl.SplitsOf(w)
		if len(splits) == 0 {
			checkHeads(t, w, w, "", "")
			continue
		}
		first, last := splits[0], splits[len(splits)-1]
		checkHeads(t, w, first[0], first[1], last[0])
	}
}

// overwriteSplits overwrites all lists of a result, and the spare capacity behind them.
func overwriteSplits(splits [][]string) {
	for _, parts := range splits {
		overwriteStrings(parts)
	}
	splits = splits[:cap(splits)]
	for i := range splits {
		splits[i] = []string{"over"}
	}
}

func TestSplitsOfAreNewEachTime(t *testing.T) {
	for _, w := range slices.Concat(someWords(), randomWords(100), strangeStrings()) {
		want := [][]string{}
		if impl.IsWord(w) {
			want = plainSplits(w)
		}
		first, second := impl.SplitsOf(w), impl.SplitsOf(w)
		checkApart(t, second)
		second = impl.SplitsOf(w)
		overwriteSplits(first)
		if !sameDomains(second, want) {
			t.Errorf("a change of one result of SplitsOf(%q) makes another one %q", w, second)
		}
		checkSplits(t, w, want)
	}
}

func TestInsertionsAreNewEachTime(t *testing.T) {
	for _, outer := range slices.Concat(someWords(), strangeStrings()) {
		for _, inner := range []string{"a", "e", "ab", "abcdefgh", "", "A"} {
			want := []string{}
			if impl.IsWord(outer) && impl.IsWord(inner) {
				want = plainInsertions(outer, inner)
			}
			first, second := impl.Insertions(outer, inner), impl.Insertions(outer, inner)
			overwriteStrings(first)
			if !slices.Equal(second, want) {
				t.Errorf("a change of one result of Insertions(%q, %q) makes another one %q", outer, inner, second)
			}
			checkInsertions(t, outer, inner, want)
		}
	}
}

// addressOf returns where the bytes of a string begin.
func addressOf(s string) uintptr {
	return uintptr(unsafe.Pointer(unsafe.StringData(s)))
}

// shareBytes reports whether two strings have bytes in the same memory.
func shareBytes(a, b string) bool {
	if a == "" || b == "" {
		return false
	}
	return addressOf(a) < addressOf(b)+uintptr(len(b)) && addressOf(b) < addressOf(a)+uintptr(len(a))
}

// partsOf returns all strings that the functions return of a word or another string.
func partsOf(w, inner string) []string {
	parts := []string{impl.HeadOf(w), impl.WithoutHead(w), impl.WithoutTail(w)}
	return slices.Concat(parts, impl.Insertions(w, inner), impl.Insertions(inner, w), slices.Concat(impl.SplitsOf(w)...))
}

func TestPartsKeepTheirMemory(t *testing.T) {
	for _, word := range slices.Concat(someWords(), randomWords(100), strangeStrings()) {
		w, inner := strings.Clone(word), strings.Clone("ab")
		for _, part := range partsOf(w, inner) {
			if shareBytes(part, w) || shareBytes(part, inner) {
				t.Errorf("the part %q shares memory with %q", part, w)
			}
		}
		impl.IsInside(inner, w)
		impl.IsInside(w, inner)
		if w != word || inner != "ab" {
			t.Errorf("the arguments %q and %q become %q and %q", word, "ab", w, inner)
		}
	}
}

func TestPartsAreTheSameEachTime(t *testing.T) {
	words := slices.Concat(someWords(), strangeStrings())
	for i, w := range words {
		other := words[len(words)-1-i]
		parts, inside := partsOf(w, "ab"), impl.IsInside("a", w)
		for range 5 {
			partsOf(other, w)
			impl.IsInside(w, other)
			if got := partsOf(w, "ab"); !slices.Equal(got, parts) || impl.IsInside("a", w) != inside {
				t.Errorf("the parts of %q, which were %q, become %q", w, parts, got)
			}
		}
	}
}

func ExampleInsertions() {
	fmt.Println(impl.Insertions("cat", "r"))
	fmt.Println(impl.Insertions("tree", "e"))
	// Output:
	// [crat cart]
	// [teree treee]
}

func ExampleSplitsOf() {
	fmt.Println(impl.SplitsOf("trace"))
	// Output: [[t race] [tr ace] [tra ce] [trac e]]
}
