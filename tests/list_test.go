package tests

import (
	"cmp"
	"math"
	"math/rand"
	"slices"
	"strings"
	"testing"

	"loop.example/g03003/impl"
)

// someList is a list with words of unequal length and with each kind of span.
func someList() []impl.Listed {
	return []impl.Listed{
		{Word: "a", From: 0, Until: 0, Score: 0},
		{Word: "z", From: 0, Until: impl.MaxTick, Score: 99},
		{Word: "at", From: 1, Until: 1, Score: 1},
		{Word: "ta", From: 5, Until: 8, Score: 2},
		{Word: "arc", From: 8, Until: 9, Score: 4},
		{Word: "cat", From: 500, Until: 999, Score: 8},
		{Word: "trace", From: 999, Until: impl.MaxTick, Score: 16},
		{Word: "abcdefgh", From: impl.MaxTick, Until: impl.MaxTick, Score: 32},
	}
}

// longList is a valid list of count words of equal length, in which the word at each odd index counts at no tick before 10.
func longList(count int) []impl.Listed {
	l := make([]impl.Listed, count)
	for i := range l {
		l[i] = impl.Listed{Word: "a" + string([]byte{byte('a' + i/26), byte('a' + i%26)}), From: i % 2 * 10, Until: 20 + i, Score: i % 100}
	}
	return l
}

// changedAt returns a copy of the list with the element at an index changed.
func changedAt(l []impl.Listed, at int, change func(x *impl.Listed)) []impl.Listed {
	changed := slices.Clone(l)
	change(&changed[at])
	return changed
}

// wrongElements are elements that no list may have, each wrong in one way; where the word is one, it belongs between "arc" and "cat".
func wrongElements() []impl.Listed {
	wrong := []impl.Listed{
		{Word: "bat", From: -1, Until: 5, Score: 1},
		{Word: "bat", From: math.MinInt, Until: 5, Score: 1},
		{Word: "bat", From: -2, Until: -1, Score: 1},
		{Word: "bat", From: 6, Until: 5, Score: 1},
		{Word: "bat", From: 1, Until: 0, Score: 1},
		{Word: "bat", From: impl.MaxTick, Until: impl.MaxTick - 1, Score: 1},
		{Word: "bat", From: 0, Until: -1, Score: 1},
		{Word: "bat", From: 0, Until: math.MinInt, Score: 1},
		{Word: "bat", From: 0, Until: impl.MaxTick + 1, Score: 1},
		{Word: "bat", From: 0, Until: math.MaxInt, Score: 1},
		{Word: "bat", From: impl.MaxTick + 1, Until: impl.MaxTick + 1, Score: 1},
		{Word: "bat", From: impl.MaxTick + 1, Until: impl.MaxTick, Score: 1},
		{Word: "bat", From: math.MinInt, Until: math.MaxInt, Score: 1},
		{Word: "bat", From: math.MaxInt, Until: math.MinInt, Score: 1},
		{Word: "bat", From: 2, Until: 5, Score: -1},
		{Word: "bat", From: 2, Until: 5, Score: 100},
		{Word: "bat", From: 2, Until: 5, Score: math.MinInt},
		{Word: "bat", From: 2, Until: 5, Score: math.MaxInt},
	}
	for _, s := range strangeStrings() {
		wrong = append(wrong, impl.Listed{Word: s, From: 2, Until: 5, Score: 1})
	}
	return wrong
}

// noLists are lists that are not valid, each wrong in one way.
func noLists() [][]impl.Listed {
	l := someList()
	lists := [][]impl.Listed{
		longList(impl.MaxList + 1),
		longList(impl.MaxList + 2),
		longList(300),
		{l[1], l[0]},
		{l[2], l[1]},
		{l[5], l[4]},
		{l[0], l[0]},
		{l[0], {Word: "a", From: 7, Until: 9, Score: 3}},
		{l[0], l[1], l[1]},
		{l[0], l[1], l[0]},
		{l[0], l[4], l[2]},
		{l[4], l[0], l[1], l[2]},
		append(someList(), l[0]),
		append(someList(), l[7]),
		reversedList(l),
	}
	for _, x := range wrongElements() {
		lists = append(lists, []impl.Listed{x}, sortedWith(l, x))
	}
	return lists
}

// reversedList returns the list in reverse order.
func reversedList(l []impl.Listed) []impl.Listed {
	turned := slices.Clone(l)
	slices.Reverse(turned)
	return turned
}

// compareWords compares two words, the shorter one first.
func compareWords(a, b string) int {
	return cmp.Or(cmp.Compare(len(a), len(b)), strings.Compare(a, b))
}

// sortedWith returns the elements and one more, in the order of their words.
func sortedWith(l []impl.Listed, x impl.Listed) []impl.Listed {
	sorted := append(slices.Clone(l), x)
	slices.SortStableFunc(sorted, func(a, b impl.Listed) int { return compareWords(a.Word, b.Word) })
	return sorted
}

// indexOfWord returns the index of the first element with a word, or -1.
func indexOfWord(l []impl.Listed, word string) int {
	return slices.IndexFunc(l, func(x impl.Listed) bool { return x.Word == word })
}

// plainIsList says what IsList should, element by element.
func plainIsList(l []impl.Listed) bool {
	for i, x := range l {
		if x.Word == "" || len(x.Word) > 8 || strings.Trim(x.Word, "abcdefghijklmnopqrstuvwxyz") != "" {
			return false
		}
		if x.From < 0 || x.Until < x.From || x.Until > 1000 || x.Score < 0 || x.Score > 99 {
			return false
		}
		if i > 0 && compareWords(l[i-1].Word, x.Word) >= 0 {
			return false
		}
	}
	return len(l) <= 40
}

// plainAddWord says what AddWord should, by sorting.
func plainAddWord(l []impl.Listed, x impl.Listed) ([]impl.Listed, bool) {
	longer := sortedWith(l, x)
	if !plainIsList(l) || !plainIsList(longer) {
		return l, false
	}
	return longer, true
}

// plainEndWord says what EndWord should, by looking at each element.
func plainEndWord(l []impl.Listed, word string, tick int) ([]impl.Listed, bool) {
	at := indexOfWord(l, word)
	if at < 0 || l[at].Until < tick {
		return l, false
	}
	changed := changedAt(l, at, func(x *impl.Listed) { x.Until = tick })
	if !plainIsList(changed) {
		return l, false
	}
	return changed, true
}

// plainWordsAt says what WordsAt should.
func plainWordsAt(l []impl.Listed, tick int) []string {
	var words []string
	for _, x := range l {
		if plainIsList(l) && x.From <= tick && tick <= x.Until {
			words = append(words, x.Word)
		}
	}
	return words
}

// plainScoreOf says what ScoreOf should.
func plainScoreOf(l []impl.Listed, words []string) int {
	sum := 0
	for _, word := range words {
		if at := indexOfWord(l, word); at >= 0 && plainIsList(l) {
			sum += l[at].Score
		}
	}
	return sum
}

// randomList is a list of few words that is valid or wrong in some way.
func randomList(source *rand.Rand) []impl.Listed {
	words := []string{"a", "b", "z", "aa", "ab", "ba", "cat", "", "B", "abcdefghi"}
	var l []impl.Listed
	for _, word := range words {
		if source.Intn(2) == 0 || len(l) > 5 || !impl.IsWord(word) && source.Intn(8) > 0 {
			continue
		}
		from := source.Intn(6)
		x := impl.Listed{Word: word, From: from, Until: from + source.Intn(5), Score: source.Intn(100)}
		switch source.Intn(40) {
		case 0:
			x.Until = impl.MaxTick + source.Intn(3)
		case 1:
			x.From = -source.Intn(2)
		case 2:
			x.Until = x.From - source.Intn(2)
		case 3:
			x.Score = []int{-1, 0, 99, 100}[source.Intn(4)]
		}
		l = append(l, x)
	}
	if len(l) > 1 && source.Intn(10) == 0 {
		i, k := source.Intn(len(l)), source.Intn(len(l))
		l[i], l[k] = l[k], l[i]
	}
	if len(l) > 0 && source.Intn(20) == 0 {
		i := source.Intn(len(l))
		l = slices.Insert(l, i, l[i])
	}
	return l
}

func TestListLimits(t *testing.T) {
	if impl.MaxList != 40 || impl.MaxTick != 1000 {
		t.Errorf("MaxList is %d and MaxTick %d", impl.MaxList, impl.MaxTick)
	}
}

func TestIsList(t *testing.T) {
	l := someList()
	lists := [][]impl.Listed{nil, {}, l, l[:1], l[3:], {l[0], l[7]}, {l[1], l[2], l[6]}, longList(1), longList(impl.MaxList - 1), longList(impl.MaxList)}
	for _, l := range lists {
		if !impl.IsList(l) {
			t.Errorf("IsList(%v) is false", l)
		}
	}
	for _, l := range noLists() {
		if impl.IsList(l) {
			t.Errorf("IsList(%v) is true", l)
		}
	}
}

func TestIsListLooksAtEachElement(t *testing.T) {
	l := longList(impl.MaxList)
	for at := range l {
		for _, x := range wrongElements() {
			// The word stays where it may, so that only what is wrong with x can be wrong with the list.
			if impl.IsWord(x.Word) {
				x.Word = l[at].Word
			}
			if changed := changedAt(l, at, func(y *impl.Listed) { *y = x }); impl.IsList(changed) {
				t.Errorf("IsList is true with %v at %d", x, at)
			}
		}
		if at == 0 {
			continue
		}
		if changed := changedAt(l, at, func(x *impl.Listed) { x.Word = l[at-1].Word }); impl.IsList(changed) {
			t.Errorf("IsList is true with the same word at %d and %d", at-1, at)
		}
		swapped := slices.Clone(l)
		swapped[at-1], swapped[at] = swapped[at], swapped[at-1]
		if impl.IsList(swapped) {
			t.Errorf("IsList is true with words out of order at %d and %d", at-1, at)
		}
	}
}

func TestIsListTakesTheLimits(t *testing.T) {
	values := []int{math.MinInt, -impl.MaxTick, -1, 0, 1, 2, 98, 99, 100, 999, 1000, 1001, math.MaxInt}
	for _, from := range values {
		for _, until := range values {
			for _, score := range values {
				want := from >= 0 && from <= until && until <= 1000 && score >= 0 && score <= 99
				if got := impl.IsList([]impl.Listed{{Word: "cat", From: from, Until: until, Score: score}}); got != want {
					t.Errorf("IsList of a word from %d to %d with score %d is %t", from, until, score, got)
				}
			}
		}
	}
}

func TestIsListGoesByTheOrderOfWords(t *testing.T) {
	words := slices.Concat(someWords(), strangeStrings())
	for _, a := range words {
		for _, b := range words {
			want := impl.IsWord(a) && impl.IsWord(b) && compareWords(a, b) < 0
			if got := impl.IsList([]impl.Listed{{Word: a}, {Word: b}}); got != want {
				t.Errorf("IsList of %q and %q is %t", a, b, got)
			}
		}
	}
}

func TestWordsAt(t *testing.T) {
	cases := []struct {
		tick int
		want string
	}{
		{math.MinInt, ""},
		{-1, ""},
		{0, "a z"},
		{1, "z at"},
		{2, "z"},
		{4, "z"},
		{5, "z ta"},
		{7, "z ta"},
		{8, "z ta arc"},
		{9, "z arc"},
		{10, "z"},
		{499, "z"},
		{500, "z cat"},
		{998, "z cat"},
		{999, "z cat trace"},
		{1000, "z trace abcdefgh"},
		{1001, ""},
		{math.MaxInt, ""},
	}
	for _, c := range cases {
		if got := strings.Join(impl.WordsAt(someList(), c.tick), " "); got != c.want {
			t.Errorf("WordsAt %d is %q, not %q", c.tick, got, c.want)
		}
	}
}

// This is promise 5: a word counts from From to Until, both included, and at no other tick.
func TestWordsCountJustFromTheirFirstToTheirLastTick(t *testing.T) {
	ends := []int{0, 1, 2, 3, 499, 500, 998, 999, 1000}
	for _, from := range ends {
		for _, until := range ends {
			if until < from {
				continue
			}
			l := []impl.Listed{{Word: "a", From: 1000, Until: 1000}, {Word: "cat", From: from, Until: until}, {Word: "dog"}}
			for tick := -3; tick <= impl.MaxTick+3; tick++ {
				want := from <= tick && tick <= until
				if got := slices.Contains(impl.WordsAt(l, tick), "cat"); got != want {
					t.Errorf("that a word from %d to %d counts at %d is %t", from, until, tick, got)
				}
			}
		}
	}
}

func TestWordsAtOfLongLists(t *testing.T) {
	l := longList(impl.MaxList)
	for tick := -2; tick < 64; tick++ {
		got := impl.WordsAt(l, tick)
		if want := plainWordsAt(l, tick); !slices.Equal(got, want) {
			t.Errorf("WordsAt %d is %v, not %v", tick, got, want)
		}
	}
	if got := impl.WordsAt(l, 20); len(got) != impl.MaxList {
		t.Errorf("WordsAt of %d words gives %d", impl.MaxList, len(got))
	}
}

func TestWordsAtOfNoList(t *testing.T) {
	ticks := []int{math.MinInt, -2, -1, 0, 1, 2, 3, 5, 8, 10, 20, 500, 999, 1000, 1001, math.MaxInt}
	for _, l := range append(noLists(), nil, []impl.Listed{}) {
		for _, tick := range ticks {
			if got := impl.WordsAt(l, tick); len(got) != 0 {
				t.Errorf("WordsAt(%v, %d) is %v", l, tick, got)
			}
		}
	}
}

func TestAddWordAtEachPlace(t *testing.T) {
	for _, length := range []int{1, 2, 3, 4, 7, 8, 39, 40} {
		whole := longList(length)
		for at, x := range whole {
			rest := slices.Delete(slices.Clone(whole), at, at+1)
			got, ok := impl.AddWord(rest, x)
			if !ok || !slices.Equal(got, whole) {
				t.Errorf("AddWord of the word at %d of %d is %v, %t", at, length, got, ok)
			}
		}
	}
	whole := someList()
	for at, x := range whole {
		rest := slices.Delete(slices.Clone(whole), at, at+1)
		if got, ok := impl.AddWord(rest, x); !ok || !slices.Equal(got, whole) {
			t.Errorf("AddWord of %v is %v, %t", x, got, ok)
		}
	}
}

func TestAddWordToNothing(t *testing.T) {
	for _, l := range [][]impl.Listed{nil, {}} {
		for _, x := range someList() {
			if got, ok := impl.AddWord(l, x); !ok || !slices.Equal(got, []impl.Listed{x}) {
				t.Errorf("AddWord of %v to no words is %v, %t", x, got, ok)
			}
		}
		for _, x := range wrongElements() {
			if got, ok := impl.AddWord(l, x); ok || len(got) != 0 {
				t.Errorf("AddWord of %v to no words is %v, %t", x, got, ok)
			}
		}
	}
}

func TestAddWordInAnyOrder(t *testing.T) {
	source := rand.New(rand.NewSource(8))
	for range 50 {
		var l []impl.Listed
		for _, i := range source.Perm(impl.MaxList) {
			added, ok := impl.AddWord(l, longList(impl.MaxList)[i])
			if !ok || len(added) != len(l)+1 || !impl.IsList(added) {
				t.Fatalf("AddWord to %v is %v, %t", l, added, ok)
			}
			l = added
		}
		if !slices.Equal(l, longList(impl.MaxList)) {
			t.Fatalf("words that are added one by one make %v", l)
		}
	}
}

// checkKept reports it if a function that failed did not return a copy of its list and false.
func checkKept(t *testing.T, name string, l, got []impl.Listed, ok bool) {
	t.Helper()
	if ok || !slices.Equal(got, l) {
		t.Errorf("%s to %v is %v, %t", name, l, got, ok)
	}
}

func TestAddWordRejects(t *testing.T) {
	l := someList()
	for _, x := range l {
		got, ok := impl.AddWord(l, x)
		checkKept(t, "the same word", l, got, ok)
		got, ok = impl.AddWord(l, impl.Listed{Word: x.Word, From: 3, Until: 4, Score: 5})
		checkKept(t, "the same word at other ticks", l, got, ok)
		got, ok = impl.AddWord(l, impl.Listed{Word: x.Word, From: 4, Until: 3, Score: 5})
		checkKept(t, "the same word and a wrong element", l, got, ok)
	}
	for _, x := range wrongElements() {
		got, ok := impl.AddWord(l, x)
		checkKept(t, "a wrong element", l, got, ok)
	}
	full := longList(impl.MaxList)
	for _, word := range []string{"a", "zz", "aaa", "abb", "zzz", "aaaa", "zzzzzzzz"} {
		got, ok := impl.AddWord(full, impl.Listed{Word: word, From: 3, Until: 4, Score: 5})
		checkKept(t, "a word too many", full, got, ok)
	}
	for _, l := range noLists() {
		for _, word := range []string{"a", "b", "ab", "aaa", "bat", "zzzzzzzz", "", "Bat"} {
			got, ok := impl.AddWord(l, impl.Listed{Word: word, From: 3, Until: 4, Score: 5})
			checkKept(t, "a word and no list", l, got, ok)
		}
	}
}

func TestEndWord(t *testing.T) {
	l := someList()
	for at, x := range l {
		ticks := []int{math.MinInt, -1, 0, 1, x.From - 1, x.From, x.From + 1, (x.From + x.Until) / 2, x.Until - 1, x.Until, x.Until + 1, 999, 1000, 1001, math.MaxInt}
		for _, tick := range ticks {
			got, ok := impl.EndWord(l, x.Word, tick)
			if tick < x.From || x.Until < tick {
				checkKept(t, "EndWord", l, got, ok)
				continue
			}
			want := changedAt(l, at, func(x *impl.Listed) { x.Until = tick })
			if !ok || !slices.Equal(got, want) {
				t.Errorf("EndWord of %v at %d is %v, %t", x, tick, got, ok)
			}
		}
	}
}

func TestEndWordOfLongLists(t *testing.T) {
	for _, length := range []int{1, 2, 3, 5, 39, 40} {
		l := longList(length)
		for at, x := range l {
			got, ok := impl.EndWord(l, x.Word, 15)
			want := changedAt(l, at, func(x *impl.Listed) { x.Until = 15 })
			if !ok || !slices.Equal(got, want) {
				t.Errorf("EndWord of the word at %d of %d is %v, %t", at, length, got, ok)
			}
		}
	}
}

func TestEndedWordsCountNoLonger(t *testing.T) {
	l := []impl.Listed{{Word: "at", From: 0, Until: 1000}, {Word: "cat", From: 20, Until: 40}, {Word: "trace", From: 20, Until: 40}}
	for end := 18; end <= 42; end++ {
		got, ok := impl.EndWord(l, "cat", end)
		if want := 20 <= end && end <= 40; ok != want {
			t.Errorf("that a word from 20 to 40 ends at %d is %t", end, ok)
		}
		last := 40
		if ok {
			last = end
		}
		for tick := 15; tick <= 45; tick++ {
			want := 20 <= tick && tick <= last
			if counts := slices.Contains(impl.WordsAt(got, tick), "cat"); counts != want {
				t.Errorf("that a word ended at %d counts at %d is %t", end, tick, counts)
			}
			if slices.Contains(impl.WordsAt(got, tick), "trace") != (20 <= tick && tick <= 40) {
				t.Errorf("the end of a word changes another one at %d", tick)
			}
		}
	}
}

func TestEndWordRejectsWordsThatAreNotThere(t *testing.T) {
	l := someList()
	for _, word := range slices.Concat([]string{"b", "aa", "tb", "ara", "ca", "cats", "cau", "tracf", "abcdefgg", "abcdefgi"}, strangeStrings()) {
		for _, tick := range []int{-1, 0, 8, 500, 1000, 1001} {
			got, ok := impl.EndWord(l, word, tick)
			checkKept(t, "EndWord of a word that is not there", l, got, ok)
			for _, none := range [][]impl.Listed{nil, {}} {
				got, ok = impl.EndWord(none, word, tick)
				checkKept(t, "EndWord of no words", none, got, ok)
			}
		}
	}
}

func TestEndWordOfNoList(t *testing.T) {
	for _, l := range noLists() {
		words := []string{"a", "z", "aaa", "bat", "dog", ""}
		for _, x := range l {
			words = append(words, x.Word)
		}
		for _, word := range words {
			for _, tick := range []int{math.MinInt, -1, 0, 1, 5, 8, 20, 1000, 1001, math.MaxInt} {
				got, ok := impl.EndWord(l, word, tick)
				want, wantOk := plainEndWord(l, word, tick)
				if ok != wantOk || !slices.Equal(got, want) {
					t.Errorf("EndWord(%v, %q, %d) is %v, %t", l, word, tick, got, ok)
				}
			}
		}
	}
}

// The chapter asks whether the result is valid: a list whose only fault is a late end is mended by an earlier end.
func TestEndWordMendsALateEnd(t *testing.T) {
	late := changedAt(someList(), 5, func(x *impl.Listed) { x.Until = impl.MaxTick + 1 })
	for _, tick := range []int{500, 501, 999, 1000} {
		want := changedAt(late, 5, func(x *impl.Listed) { x.Until = tick })
		if got, ok := impl.EndWord(late, "cat", tick); !ok || !slices.Equal(got, want) {
			t.Errorf("EndWord of a late end at %d is %v, %t", tick, got, ok)
		}
	}
	for _, tick := range []int{-1, 0, 499, 1001, 1002, math.MaxInt} {
		got, ok := impl.EndWord(late, "cat", tick)
		checkKept(t, "EndWord of a late end", late, got, ok)
	}
	got, ok := impl.EndWord(late, "ta", 6)
	checkKept(t, "EndWord beside a late end", late, got, ok)
	early := changedAt(someList(), 5, func(x *impl.Listed) { x.Until = x.From - 1 })
	for _, tick := range []int{0, 498, 499, 500, 501} {
		got, ok := impl.EndWord(early, "cat", tick)
		checkKept(t, "EndWord of a word that ends before it begins", early, got, ok)
	}
}

func TestScoreOf(t *testing.T) {
	l := someList()
	cases := []struct {
		words []string
		want  int
	}{
		{nil, 0},
		{[]string{}, 0},
		{[]string{"a"}, 0},
		{[]string{"z"}, 99},
		{[]string{"at", "ta", "arc", "cat", "trace", "abcdefgh"}, 63},
		{[]string{"abcdefgh", "trace", "cat", "arc", "ta", "at"}, 63},
		{[]string{"cat", "cat"}, 16},
		{[]string{"cat", "arc", "cat", "arc", "cat"}, 32},
		{[]string{"dog"}, 0},
		{[]string{"dog", "ca", "cats", "cau", "", "Cat", "c?t", "abcdefghi", "aaaaaaaaaaaa"}, 0},
		{[]string{"dog", "cat", "", "cat", "zz", "z"}, 115},
		{slices.Repeat([]string{"z"}, 1000), 99000},
	}
	for _, c := range cases {
		if got := impl.ScoreOf(l, c.words); got != c.want {
			t.Errorf("ScoreOf(%v) is %d, not %d", c.words, got, c.want)
		}
		if got := impl.ScoreOf(nil, c.words) + impl.ScoreOf([]impl.Listed{}, c.words); got != 0 {
			t.Errorf("ScoreOf no list and %v is %d", c.words, got)
		}
	}
	for _, x := range longList(impl.MaxList) {
		if got := impl.ScoreOf(longList(impl.MaxList), []string{x.Word}); got != x.Score {
			t.Errorf("ScoreOf %q is %d, not %d", x.Word, got, x.Score)
		}
	}
}

func TestScoreOfNoList(t *testing.T) {
	for _, l := range noLists() {
		words := []string{"a", "z", "aaa", "aab", "bat", "cat"}
		for _, x := range l {
			words = append(words, x.Word)
		}
		if got := impl.ScoreOf(l, words); got != 0 {
			t.Errorf("ScoreOf(%v, %v) is %d", l, words, got)
		}
	}
}

func TestHasWord(t *testing.T) {
	cases := []struct {
		words []string
		word  string
		want  bool
	}{
		{nil, "at", false},
		{nil, "", false},
		{[]string{}, "at", false},
		{[]string{"at"}, "at", true},
		{[]string{"at", "cat"}, "cat", true},
		{[]string{"cat", "at"}, "cat", true},
		{[]string{"zoo", "cat", "a"}, "cat", true},
		{[]string{"zoo", "cat", "a"}, "a", true},
		{[]string{"cat", "cat"}, "cat", true},
		{[]string{"cat"}, "ca", false},
		{[]string{"cat"}, "cats", false},
		{[]string{"cat"}, "act", false},
		{[]string{"cat"}, "Cat", false},
		{[]string{"cat"}, "", false},
		{[]string{"cat", ""}, "", true},
		{[]string{"c?t", "Cat", "abcdefghi"}, "abcdefghi", true},
		{[]string{"c?t", "Cat", "abcdefghi"}, "cat", false},
		{[]string{"c?t"}, "c?t", true},
		{[]string{"\xff"}, "\xff", true},
		{[]string{"\xff"}, "\ufffd", false},
	}
	for _, c := range cases {
		if got := impl.HasWord(c.words, c.word); got != c.want {
			t.Errorf("HasWord(%q, %q) is %t", c.words, c.word, got)
		}
	}
	// The words need not be in the order of a list, nor few.
	many := randomWords(3000)
	for _, word := range slices.Concat(many, someWords(), strangeStrings()) {
		if got := impl.HasWord(many, word); got != slices.Contains(many, word) {
			t.Errorf("HasWord of %d words and %q is %t", len(many), word, got)
		}
	}
}

func TestRandomLists(t *testing.T) {
	source := rand.New(rand.NewSource(9))
	words := []string{"a", "b", "c", "z", "aa", "ab", "ba", "bb", "cat", "", "B", "abcdefghi"}
	valid := 0
	for range 20000 {
		l := randomList(source)
		if impl.IsList(l) != plainIsList(l) {
			t.Fatalf("IsList(%v) is %t", l, impl.IsList(l))
		}
		if plainIsList(l) {
			valid++
		}
		tick, word := source.Intn(14)-2, words[source.Intn(len(words))]
		if got, want := impl.WordsAt(l, tick), plainWordsAt(l, tick); !slices.Equal(got, want) {
			t.Fatalf("WordsAt(%v, %d) is %v, not %v", l, tick, got, want)
		}
		got, ok := impl.EndWord(l, word, tick)
		if want, wantOk := plainEndWord(l, word, tick); ok != wantOk || !slices.Equal(got, want) {
			t.Fatalf("EndWord(%v, %q, %d) is %v, %t", l, word, tick, got, ok)
		}
		x := impl.Listed{Word: word, From: tick, Until: tick + source.Intn(5) - 1, Score: source.Intn(104) - 2}
		got, ok = impl.AddWord(l, x)
		if want, wantOk := plainAddWord(l, x); ok != wantOk || !slices.Equal(got, want) {
			t.Fatalf("AddWord(%v, %v) is %v, %t", l, x, got, ok)
		}
		some := []string{word, words[source.Intn(len(words))], words[source.Intn(len(words))], word}
		if got, want := impl.ScoreOf(l, some), plainScoreOf(l, some); got != want {
			t.Fatalf("ScoreOf(%v, %v) is %d, not %d", l, some, got, want)
		}
	}
	if valid < 5000 || valid > 19000 {
		t.Errorf("%d of 20000 random lists are valid", valid)
	}
}

// listWithSpare returns a slice of the list with spare capacity behind it, and the whole memory of both.
func listWithSpare(l []impl.Listed) (part, whole []impl.Listed) {
	whole = append(slices.Clone(l), slices.Repeat([]impl.Listed{{Word: "spare", From: 7, Until: 7, Score: 7}}, 8)...)
	return whole[:len(l)], whole
}

// overwriteList overwrites a result and the spare capacity behind it.
func overwriteList(l []impl.Listed) {
	l = l[:cap(l)]
	for i := range l {
		l[i] = impl.Listed{Word: "over", From: -1, Until: -1, Score: -1}
	}
}

func TestListsKeepTheirMemory(t *testing.T) {
	lists := append(noLists(), nil, []impl.Listed{}, someList(), someList()[:1], longList(impl.MaxList-1), longList(impl.MaxList))
	added := append(wrongElements(), impl.Listed{Word: "a", Until: 3}, impl.Listed{Word: "zzzzzzzz", Until: 3}, impl.Listed{Word: "bb", Until: 3}, impl.Listed{Word: "cat", Until: 3})
	for _, l := range lists {
		part, whole := listWithSpare(l)
		before := slices.Clone(whole)
		check := func(name string) {
			t.Helper()
			if !slices.Equal(whole, before) {
				t.Fatalf("%s of %v changes its argument, or shares memory with it: %v", name, l, whole)
			}
		}
		for _, x := range added {
			result, _ := impl.AddWord(part, x)
			check("AddWord")
			overwriteList(result)
			check("AddWord")
		}
		for _, word := range []string{"a", "at", "ta", "aaa", "aab", "cat", "bat", "dog", ""} {
			for _, tick := range []int{-1, 0, 1, 6, 15, 600, 1000, 1001} {
				result, _ := impl.EndWord(part, word, tick)
				check("EndWord")
				overwriteList(result)
				check("EndWord")
			}
		}
		impl.IsList(part)
		impl.WordsAt(part, 8)
		impl.ScoreOf(part, []string{"cat", "a", "cat"})
		check("another function")
	}
}

func TestWordsKeepTheirMemory(t *testing.T) {
	whole := []string{"cat", "a", "cat", "dog", "", "spare", "spare"}
	before := slices.Clone(whole)
	impl.ScoreOf(someList(), whole[:5])
	impl.ScoreOf(noLists()[0], whole[:5])
	impl.HasWord(whole[:5], "dog")
	impl.HasWord(whole[:5], "spare")
	if !slices.Equal(whole, before) {
		t.Errorf("the words of an argument become %v", whole)
	}
	if impl.HasWord(whole[:5], "spare") {
		t.Error("HasWord finds a word in the spare capacity")
	}
	first, second := impl.WordsAt(someList(), 8), impl.WordsAt(someList(), 8)
	first = first[:cap(first)]
	for i := range first {
		first[i] = "over"
	}
	if !slices.Equal(second, []string{"z", "ta", "arc"}) {
		t.Errorf("two results of WordsAt share memory: %v", second)
	}
}
