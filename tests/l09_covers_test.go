package tests

import (
	"fmt"
	"math"
	"slices"
	"strings"
	"testing"

	"loop.example/g01371/impl"
)

// wrongCoverLengths are lengths that are out of range for SeedsOf and FirstTwo.
var wrongCoverLengths = append([]int64{0}, wrongLengths...)

// coverWords are words of several lengths with few and with many covers, seeds and borders.
func coverWords() []string {
	return append(factorWords(), "abaabaaba", "abaababa", "ababaa", "abacaba", "aabaacaabaa", "abcabca", "baababaab", "baabaab", "abaabaab",
		"aababbaa", "bcbcc", strings.Repeat("aba", 20), strings.Repeat("a", 30)+"b"+strings.Repeat("a", 29), "ab"+strings.Repeat("aab", 19)+"a",
		strings.Repeat("abacabadabacaba", 4), strings.Repeat("a", 29)+"bb"+strings.Repeat("a", 29))
}

// shortCoverWords are words for tests that look through everything.
func shortCoverWords() []string {
	return append(allWords(6, 2), append(allWords(4, 3), "abaabaa", "aabaaba", "baababaa", "abcabca", "abacaba", "aababab")...)
}

// factorsByLength returns the different factors of w that are not empty, by their lengths first, and then as words.
func factorsByLength(w string) []string {
	var all []string
	for m := 1; m <= len(w); m++ {
		all = append(all, different(w, m)...)
	}
	return all
}

// isCovered reports whether a word is at a place i of w, i at most j and j less than i and the letters of the word together.
func isCovered(w string, j int, words []string) bool {
	for _, u := range words {
		for i := max(0, j-len(u)+1); i <= j; i++ {
			if strings.HasPrefix(w[i:], u) {
				return true
			}
		}
	}
	return false
}

// uncoveredAsDefined returns the places of w that none of the words covers.
func uncoveredAsDefined(w string, words ...string) []int64 {
	var places []int64
	for j := range w {
		if !isCovered(w, j, words) {
			places = append(places, int64(j))
		}
	}
	return places
}

// coversAsDefined returns the factors of w that are not empty and cover all its places.
func coversAsDefined(w string) []string {
	var covers []string
	for _, u := range factorsByLength(w) {
		if len(uncoveredAsDefined(w, u)) == 0 {
			covers = append(covers, u)
		}
	}
	return covers
}

// wordsCovered returns all words that are not empty, of at most n letters, that u covers.
func wordsCovered(u string, n int) []string {
	found := map[string]bool{u: true}
	words := []string{u}
	for from := 0; from < len(words); from++ {
		w := words[from]
		// What is put behind w ends with u, which begins inside of w or just behind it.
		for more := 1; more <= len(u) && len(w)+more <= n; more++ {
			longer := w + u[len(u)-more:]
			if strings.HasSuffix(longer, u) && !found[longer] {
				found[longer] = true
				words = append(words, longer)
			}
		}
	}
	return words
}

// isSeedAsDefined reports whether w is a factor of one of the words that are covered.
func isSeedAsDefined(w string, covered []string) bool {
	return slices.ContainsFunc(covered, func(whole string) bool { return strings.Contains(whole, w) })
}

// isSeedByPlaces reports whether u can be put at places in, ahead of or behind the beginning of w, so that it has the letters of w
// where both have some, and each place of w has some u on it.
func isSeedByPlaces(w string, u string) bool {
	covered := make([]bool, len(w))
	for from := 1 - len(u); from < len(w); from++ {
		left, right := max(from, 0), min(from+len(u), len(w))
		if w[left:right] == u[left-from:right-from] {
			for j := left; j < right; j++ {
				covered[j] = true
			}
		}
	}
	return !slices.Contains(covered, false)
}

// coversAreRefused tests that the functions with a word w, a word u that covers and a length m return zero values and a code.
func coversAreRefused(t *testing.T, w string, u string, m int64, want int64) {
	t.Helper()
	secondIsRefused(t, w, u, want)
	wordIsRefused(t, w, want)
	lengthIsRefused(t, w, m, want)
}

// wordIsRefused tests that the functions with one word return zero values and a code.
func wordIsRefused(t *testing.T, w string, want int64) {
	t.Helper()
	of := fmt.Sprintf("(%q)", w)
	covers, code := impl.CoversOf(w)
	wantList(t, "CoversOf"+of, covers, code, nil, want)
	least, code := impl.LeastCover(w)
	wantWord(t, "LeastCover"+of, least, code, anError, want)
	answer, code := impl.IsSuperprimitive(w)
	wantAnswer(t, "IsSuperprimitive"+of, answer, code, false, want)
	lengths, code := impl.CoverLengths(w)
	wantList(t, "CoverLengths"+of, lengths, code, nil, want)
	seed, code := impl.LeastSeed(w)
	wantWord(t, "LeastSeed"+of, seed, code, anError, want)
	best, places, code := impl.BestBorder(w)
	wantWordAndNumber(t, "BestBorder"+of, best, places, code, anError, 0, want)
}

// secondIsRefused tests that the functions with a word and one or two that cover it return zero values and a code.
func secondIsRefused(t *testing.T, w string, u string, want int64) {
	t.Helper()
	of := fmt.Sprintf("(%q, %q)", w, u)
	answer, code := impl.IsCover(w, u)
	wantAnswer(t, "IsCover"+of, answer, code, false, want)
	places, code := impl.UncoveredPlaces(w, u)
	wantList(t, "UncoveredPlaces"+of, places, code, nil, want)
	answer, code = impl.IsSeed(w, u)
	wantAnswer(t, "IsSeed"+of, answer, code, false, want)
	for _, other := range []string{"a", "ab", u} {
		answer, code = impl.CoveredByTwo(w, u, other)
		wantAnswer(t, fmt.Sprintf("CoveredByTwo(%q, %q, %q)", w, u, other), answer, code, false, want)
		answer, code = impl.CoveredByTwo(w, other, u)
		wantAnswer(t, fmt.Sprintf("CoveredByTwo(%q, %q, %q)", w, other, u), answer, code, false, want)
	}
}

// lengthIsRefused tests that the functions with a word and a length return zero values and a code.
func lengthIsRefused(t *testing.T, w string, m int64, want int64) {
	t.Helper()
	of := fmt.Sprintf("(%q, %d)", w, m)
	seeds, code := impl.SeedsOf(w, m)
	wantList(t, "SeedsOf"+of, seeds, code, nil, want)
	two, code := impl.FirstTwo(w, m)
	wantList(t, "FirstTwo"+of, two, code, nil, want)
}

// Each function refuses each string that is not a word, before it looks at words that are empty, at lengths and at lists.
func TestCoversOfNoWords(t *testing.T) {
	for _, wrong := range notWords {
		for _, u := range []string{"a", "ab", "", longWord(60)} {
			for _, m := range []int64{1, 60, 0, 61, -1, math.MaxInt64} {
				coversAreRefused(t, wrong, u, m, impl.ErrInvalid)
			}
		}
		for _, w := range []string{"", "a", "abaab", longWord(60)} {
			secondIsRefused(t, w, wrong, impl.ErrInvalid)
		}
		for _, other := range []string{"", wrong} {
			for _, words := range [][3]string{{"abaab", wrong, other}, {"abaab", other, wrong}, {wrong, other, other}, {"", other, wrong}} {
				answer, code := impl.CoveredByTwo(words[0], words[1], words[2])
				wantAnswer(t, fmt.Sprintf("CoveredByTwo%q", words), answer, code, false, impl.ErrInvalid)
			}
		}
		for _, list := range [][]int64{nil, {0}, {-1}, {1000}, {math.MinInt64}, slices.Repeat([]int64{0}, 100)} {
			word, code := impl.GrowByCover(wrong, list)
			wantWord(t, fmt.Sprintf("GrowByCover(%q, %v)", wrong, list), word, code, anError, impl.ErrInvalid)
		}
	}
}

// The empty word covers nothing, also if there is nothing to cover.
func TestEmptyWordsThatCover(t *testing.T) {
	for _, w := range append(mixedWords(), "abaab") {
		secondIsRefused(t, w, "", impl.ErrRange)
	}
}

// The empty word is covered by each word, and has no cover, no seed and no border word itself.
func TestCoversOfTheEmptyWord(t *testing.T) {
	for _, u := range []string{"a", "e", "abaab", longWord(60)} {
		covered, code := impl.IsCover("", u)
		wantAnswer(t, fmt.Sprintf(`IsCover("", %q)`, u), covered, code, true, impl.ErrNone)
		places, code := impl.UncoveredPlaces("", u)
		wantList(t, fmt.Sprintf(`UncoveredPlaces("", %q)`, u), places, code, nil, impl.ErrNone)
		seed, code := impl.IsSeed("", u)
		wantAnswer(t, fmt.Sprintf(`IsSeed("", %q)`, u), seed, code, false, impl.ErrRange)
		both, code := impl.CoveredByTwo("", u, "b")
		wantAnswer(t, fmt.Sprintf(`CoveredByTwo("", %q, "b")`, u), both, code, true, impl.ErrNone)
	}
	covers, code := impl.CoversOf("")
	wantList(t, `CoversOf("")`, covers, code, nil, impl.ErrNone)
	least, code := impl.LeastCover("")
	wantWord(t, `LeastCover("")`, least, code, anError, impl.ErrNotFound)
	primitive, code := impl.IsSuperprimitive("")
	wantAnswer(t, `IsSuperprimitive("")`, primitive, code, false, impl.ErrNone)
	lengths, code := impl.CoverLengths("")
	wantList(t, `CoverLengths("")`, lengths, code, nil, impl.ErrNone)
	seed, code := impl.LeastSeed("")
	wantWord(t, `LeastSeed("")`, seed, code, anError, impl.ErrNotFound)
	best, places, code := impl.BestBorder("")
	wantWordAndNumber(t, `BestBorder("")`, best, places, code, anError, 0, impl.ErrNotFound)
	for _, m := range []int64{1, 2, impl.MaxWord} {
		seeds, code := impl.SeedsOf("", m)
		wantList(t, fmt.Sprintf(`SeedsOf("", %d)`, m), seeds, code, nil, impl.ErrNone)
		two, code := impl.FirstTwo("", m)
		wantList(t, fmt.Sprintf(`FirstTwo("", %d)`, m), two, code, nil, impl.ErrNotFound)
	}
}

// A word of one letter is its only cover and its only seed, and has no border word.
func TestCoversOfOneLetter(t *testing.T) {
	for _, w := range []string{"a", "b", "c", "d", "e"} {
		covers, code := impl.CoversOf(w)
		wantList(t, fmt.Sprintf("CoversOf(%q)", w), covers, code, []string{w}, impl.ErrNone)
		least, code := impl.LeastCover(w)
		wantWord(t, fmt.Sprintf("LeastCover(%q)", w), least, code, w, impl.ErrNone)
		primitive, code := impl.IsSuperprimitive(w)
		wantAnswer(t, fmt.Sprintf("IsSuperprimitive(%q)", w), primitive, code, true, impl.ErrNone)
		lengths, code := impl.CoverLengths(w)
		wantList(t, fmt.Sprintf("CoverLengths(%q)", w), lengths, code, []int64{1}, impl.ErrNone)
		seed, code := impl.LeastSeed(w)
		wantWord(t, fmt.Sprintf("LeastSeed(%q)", w), seed, code, w, impl.ErrNone)
		seeds, code := impl.SeedsOf(w, 1)
		wantList(t, fmt.Sprintf("SeedsOf(%q, 1)", w), seeds, code, []string{w}, impl.ErrNone)
		best, places, code := impl.BestBorder(w)
		wantWordAndNumber(t, fmt.Sprintf("BestBorder(%q)", w), best, places, code, anError, 0, impl.ErrNotFound)
		two, code := impl.FirstTwo(w, 1)
		wantList(t, fmt.Sprintf("FirstTwo(%q, 1)", w), two, code, nil, impl.ErrNotFound)
	}
}

func TestIsCover(t *testing.T) {
	cases := []struct {
		w, u string
		want bool
	}{
		{"abaababa", "aba", true},
		{"abaabb", "ab", false},
		{"abaab", "ab", false},
		{"abab", "ab", true},
		{"ababa", "ab", false},
		{"ababa", "aba", true},
		{"ababa", "ba", false},
		{"baba", "aba", false},
		{"aaaa", "a", true},
		{"aaaa", "aa", true},
		{"aaaa", "aaa", true},
		{"aaba", "a", false},
		{"ab", "b", false},
		{"ab", "a", false},
		{"ab", "ba", false},
		// A gap of one place in the middle, and none.
		{"abacaba", "aba", false},
		{"abaaba", "aba", true},
		// A cover that is the word, and words that are longer.
		{"abc", "abc", true},
		{"abc", "abcd", false},
		{"abc", "abcabc", false},
		{"a", "aa", false},
		{"a", longWord(60), false},
		{longWord(60), longWord(60), true},
		{longWord(60), longWord(5), true},
		{longWord(60), longWord(10), true},
		{longWord(60), longWord(55), true},
		{longWord(60), longWord(59), false},
		{longWord(60), longWord(58), false},
		{longWord(59), longWord(60), false},
		{strings.Repeat("a", 60), "a", true},
		{strings.Repeat("a", 60), strings.Repeat("a", 59), true},
		{strings.Repeat("a", 59) + "b", "a", false},
		{"b" + strings.Repeat("a", 59), "a", false},
		{strings.Repeat("a", 30) + "b" + strings.Repeat("a", 29), strings.Repeat("a", 29), false},
		{strings.Repeat("a", 29) + "b" + strings.Repeat("a", 30), strings.Repeat("a", 29) + "b" + strings.Repeat("a", 29), false},
	}
	for _, c := range cases {
		got, code := impl.IsCover(c.w, c.u)
		wantAnswer(t, fmt.Sprintf("IsCover(%q, %q)", c.w, c.u), got, code, c.want, impl.ErrNone)
	}
}

// Factors of words, words of two letters that may be none, and longer words are asked.
func TestIsCoverAndPlacesAsDefined(t *testing.T) {
	for _, w := range coverWords() {
		others := append(factorsByLength(w), "c", "ab", "ba", "aba", "bb", w+"a", w+w)
		for _, u := range others {
			if u == "" || len(u) > impl.MaxWord {
				continue
			}
			of := fmt.Sprintf("(%q, %q)", w, u)
			want := uncoveredAsDefined(w, u)
			covered, code := impl.IsCover(w, u)
			wantAnswer(t, "IsCover"+of, covered, code, len(want) == 0, impl.ErrNone)
			places, code := impl.UncoveredPlaces(w, u)
			wantList(t, "UncoveredPlaces"+of, places, code, want, impl.ErrNone)
		}
	}
}

func TestCoversOf(t *testing.T) {
	cases := []struct {
		w    string
		want []string
	}{
		{"abaabaaba", []string{"aba", "abaaba", "abaabaaba"}},
		{"abaababa", []string{"aba", "abaababa"}},
		{"abab", []string{"ab", "abab"}},
		{"aaa", []string{"a", "aa", "aaa"}},
		{"ab", []string{"ab"}},
		{"abcab", []string{"abcab"}},
		{"abacaba", []string{"abacaba"}},
		{"abcabca", []string{"abca", "abcabca"}},
		{"aabaabaa", []string{"aabaa", "aabaabaa"}},
		{"abaababaabaab", []string{"abaab", "abaababaabaab"}},
		{longWord(12), []string{longWord(7), longWord(12)}},
		{longWord(59), []string{longWord(9), longWord(14), longWord(19), longWord(24), longWord(29), longWord(34), longWord(39), longWord(44),
			longWord(49), longWord(54), longWord(59)}},
		{strings.Repeat("a", 59) + "b", []string{strings.Repeat("a", 59) + "b"}},
	}
	for _, c := range cases {
		got, code := impl.CoversOf(c.w)
		wantList(t, fmt.Sprintf("CoversOf(%q)", c.w), got, code, c.want, impl.ErrNone)
	}
	all, code := impl.CoversOf(strings.Repeat("b", 60))
	if code != impl.ErrNone || len(all) != 60 {
		t.Errorf("CoversOf: %d covers of sixty letters b, %d", len(all), code)
	}
}

// Covers, least covers, words that are their only cover, and lengths of least covers are held against covers found by definition.
func TestCoversAsDefined(t *testing.T) {
	for _, w := range coverWords() {
		of := fmt.Sprintf("(%q)", w)
		want := coversAsDefined(w)
		covers, code := impl.CoversOf(w)
		wantList(t, "CoversOf"+of, covers, code, want, impl.ErrNone)
		primitive, code := impl.IsSuperprimitive(w)
		wantAnswer(t, "IsSuperprimitive"+of, primitive, code, slices.Equal(want, []string{w}), impl.ErrNone)
		if w != "" {
			least, code := impl.LeastCover(w)
			wantWord(t, "LeastCover"+of, least, code, want[0], impl.ErrNone)
		}
		var wantLengths []int64
		for m := 1; m <= len(w); m++ {
			// The least cover of a beginning is a beginning: just these are looked at.
			k := 1
			for len(uncoveredAsDefined(w[:m], w[:k])) > 0 {
				k++
			}
			wantLengths = append(wantLengths, int64(k))
		}
		lengths, code := impl.CoverLengths(w)
		wantList(t, "CoverLengths"+of, lengths, code, wantLengths, impl.ErrNone)
	}
}

func TestLeastCover(t *testing.T) {
	cases := []struct{ w, want string }{
		{"ababa", "aba"},
		{"abaababa", "aba"},
		{"abaabaaba", "aba"},
		{"abcab", "abcab"},
		{"aaaa", "a"},
		{"ab", "ab"},
		{"ba", "ba"},
		{"abab", "ab"},
		{"abaab", "abaab"},
		{"aabaabaa", "aabaa"},
		{longWord(60), longWord(5)},
		{longWord(59), longWord(9)},
		{strings.Repeat("e", 60), "e"},
		{strings.Repeat("a", 59) + "b", strings.Repeat("a", 59) + "b"},
		{strings.Repeat("a", 29) + "bb" + strings.Repeat("a", 29), strings.Repeat("a", 29) + "bb" + strings.Repeat("a", 29)},
	}
	for _, c := range cases {
		got, code := impl.LeastCover(c.w)
		wantWord(t, fmt.Sprintf("LeastCover(%q)", c.w), got, code, c.want, impl.ErrNone)
	}
}

func TestIsSuperprimitive(t *testing.T) {
	cases := map[string]bool{"aba": true, "ab": true, "aa": false, "abab": false, "ababa": false, "abaab": true, "abaaba": false, "abacaba": true,
		"abcab": true, "abcabc": false, "aabaabaa": false, "aabaa": true, longWord(5): true, longWord(9): true, longWord(10): false,
		longWord(60): false, strings.Repeat("a", 60): false, strings.Repeat("a", 59) + "b": true, "b" + strings.Repeat("a", 59): true,
		strings.Repeat("abacabadabacaba", 4): false, "abacabadabacaba": true}
	for w, want := range cases {
		got, code := impl.IsSuperprimitive(w)
		wantAnswer(t, fmt.Sprintf("IsSuperprimitive(%q)", w), got, code, want, impl.ErrNone)
	}
}

func TestCoverLengths(t *testing.T) {
	cases := []struct {
		w    string
		want []int64
	}{
		{"ababaa", []int64{1, 2, 3, 2, 3, 6}},
		{"abaababa", []int64{1, 2, 3, 4, 5, 3, 7, 3}},
		{"abaababaabaab", []int64{1, 2, 3, 4, 5, 3, 7, 3, 9, 5, 3, 12, 5}},
		{"aaaa", []int64{1, 1, 1, 1}},
		{"aabaabaa", []int64{1, 1, 3, 4, 5, 3, 4, 5}},
		{"abcabca", []int64{1, 2, 3, 4, 5, 3, 4}},
		{"abcde", []int64{1, 2, 3, 4, 5}},
		{"eeed", []int64{1, 1, 1, 4}},
	}
	for _, c := range cases {
		got, code := impl.CoverLengths(c.w)
		wantList(t, fmt.Sprintf("CoverLengths(%q)", c.w), got, code, c.want, impl.ErrNone)
	}
	longest, code := impl.CoverLengths(strings.Repeat("a", 59) + "b")
	wantList(t, "CoverLengths of 59 letters a and a b", longest, code, append(slices.Repeat([]int64{1}, 59), 60), impl.ErrNone)
}

func TestUncoveredPlaces(t *testing.T) {
	cases := []struct {
		w, u string
		want []int64
	}{
		{"abaabb", "ab", []int64{2, 5}},
		{"abaababa", "aba", nil},
		{"abacaba", "aba", []int64{3}},
		{"abacaba", "c", []int64{0, 1, 2, 4, 5, 6}},
		{"babab", "aba", []int64{0, 4}},
		{"aaaa", "aa", nil},
		{"aabaa", "aa", []int64{2}},
		{"abc", "d", []int64{0, 1, 2}},
		{"abc", "abcd", []int64{0, 1, 2}},
		{"abc", "abc", nil},
		{"a", "ab", []int64{0}},
		{"a", "a", nil},
		{strings.Repeat("a", 59) + "b", "a", []int64{59}},
		{strings.Repeat("a", 59) + "b", strings.Repeat("a", 59), []int64{59}},
		{"b" + strings.Repeat("a", 59), "aa", []int64{0}},
		{longWord(60), "abcde", nil},
		{longWord(60), "eabcd", []int64{0, 1, 2, 3, 59}},
		{longWord(60), longWord(60), nil},
	}
	for _, c := range cases {
		got, code := impl.UncoveredPlaces(c.w, c.u)
		wantList(t, fmt.Sprintf("UncoveredPlaces(%q, %q)", c.w, c.u), got, code, c.want, impl.ErrNone)
	}
	all, code := impl.UncoveredPlaces(longWord(60), "aa")
	if code != impl.ErrNone || len(all) != 60 || all[0] != 0 || all[59] != 59 {
		t.Errorf("UncoveredPlaces: %v, %d", all, code)
	}
}

func TestIsSeed(t *testing.T) {
	cases := []struct {
		w, u string
		want bool
		code int64
	}{
		{"baababaab", "aba", true, impl.ErrNone},
		{"abb", "ab", false, impl.ErrNone},
		{"ababa", "ab", true, impl.ErrNone},
		{"ababa", "ba", true, impl.ErrNone},
		// What hangs over at the beginning alone, at the end alone, at both, and nowhere.
		{"babab", "ab", true, impl.ErrNone},
		{"abab", "aba", true, impl.ErrNone},
		{"baba", "aba", true, impl.ErrNone},
		{"babab", "aba", true, impl.ErrNone},
		{"ababa", "aba", true, impl.ErrNone},
		{"bbab", "ab", false, impl.ErrNone},
		{"abaa", "aba", true, impl.ErrNone},
		{"abaab", "aba", true, impl.ErrNone},
		{"abaabb", "aba", false, impl.ErrNone},
		// Seeds that are no factors: both of them hang over.
		{"ba", "ab", true, impl.ErrNone},
		{"bab", "abb", true, impl.ErrNone},
		{"cab", "abc", true, impl.ErrNone},
		{"dab", "abc", false, impl.ErrNone},
		{"aa", "ba", false, impl.ErrNone},
		{"aa", "aba", false, impl.ErrRange},
		{"aab", "aba", true, impl.ErrNone},
		{"ab", "ba", true, impl.ErrNone},
		{"bb", "ab", false, impl.ErrNone},
		{"a", "a", true, impl.ErrNone},
		{"a", "b", false, impl.ErrNone},
		{"a", "ab", false, impl.ErrRange},
		{"a", longWord(60), false, impl.ErrRange},
		{longWord(60), longWord(60), true, impl.ErrNone},
		{longWord(59), longWord(60), false, impl.ErrRange},
		{longWord(60), "cdeab", true, impl.ErrNone},
		{longWord(60), "cdea", false, impl.ErrNone},
		{longWord(60), longWord(60)[3:58], true, impl.ErrNone},
		{longWord(60), longWord(60)[1:] + "a", true, impl.ErrNone},
		{longWord(60), longWord(59)[2:] + "cde", false, impl.ErrNone},
		{strings.Repeat("a", 60), strings.Repeat("a", 59) + "b", false, impl.ErrNone},
		{strings.Repeat("a", 59) + "b", strings.Repeat("a", 59) + "b", true, impl.ErrNone},
		{strings.Repeat("a", 59) + "b", strings.Repeat("a", 58) + "b", false, impl.ErrNone},
		{strings.Repeat("a", 58) + "ba", strings.Repeat("a", 58) + "b", true, impl.ErrNone},
	}
	for _, c := range cases {
		got, code := impl.IsSeed(c.w, c.u)
		wantAnswer(t, fmt.Sprintf("IsSeed(%q, %q)", c.w, c.u), got, code, c.want, c.code)
	}
}

// A seed is a cover of some word of which w is a factor. A word with 2 |u| - 2 letters more than w is long enough, as a u ahead of or
// behind all those that touch w can be left out.
func TestIsSeedAsDefined(t *testing.T) {
	const letters = 5
	covered := map[string][]string{}
	for _, u := range allWords(letters, 2) {
		if u != "" {
			covered[u] = wordsCovered(u, letters+2*len(u)-2)
		}
	}
	found := 0
	for _, w := range allWords(letters, 2) {
		for u, words := range covered {
			call := fmt.Sprintf("IsSeed(%q, %q)", w, u)
			got, code := impl.IsSeed(w, u)
			if len(u) > len(w) {
				wantAnswer(t, call, got, code, false, impl.ErrRange)
				continue
			}
			want := isSeedAsDefined(w, words)
			wantAnswer(t, call, got, code, want, impl.ErrNone)
			if want != isSeedByPlaces(w, u) {
				t.Errorf("%q and %q: the tests do not agree", w, u)
			}
			if want && !strings.Contains(w, u) {
				found++
			}
		}
	}
	if found == 0 {
		t.Error("no seed that is no factor was found")
	}
}

func TestIsSeedByPlaces(t *testing.T) {
	for _, w := range coverWords() {
		for _, u := range append(factorsByLength(w), "ab", "ba", "aba", "bab", "abb", "caab") {
			if len(u) > len(w) {
				continue
			}
			got, code := impl.IsSeed(w, u)
			wantAnswer(t, fmt.Sprintf("IsSeed(%q, %q)", w, u), got, code, isSeedByPlaces(w, u), impl.ErrNone)
		}
	}
}

func TestSeedsOf(t *testing.T) {
	cases := []struct {
		w    string
		m    int64
		want []string
	}{
		{"ababa", 2, []string{"ab", "ba"}},
		{"ababa", 1, nil},
		{"ababa", 3, []string{"aba", "bab"}},
		{"ababa", 5, []string{"ababa"}},
		{"ababa", 6, nil},
		{"ababa", impl.MaxWord, nil},
		{"aaa", 1, []string{"a"}},
		{"aaa", 2, []string{"aa"}},
		{"abcabca", 3, []string{"abc", "bca", "cab"}},
		{"abcab", 4, []string{"abca", "bcab"}},
		{"abacaba", 3, nil},
		{"abacaba", 4, []string{"abac", "acab", "baca", "caba"}},
		{"aabaabaa", 3, []string{"aab", "aba", "baa"}},
		{"ab", 1, nil},
		{"ab", 2, []string{"ab"}},
		{"ba", 2, []string{"ba"}},
		{longWord(60), 5, []string{"abcde", "bcdea", "cdeab", "deabc", "eabcd"}},
		{longWord(60), 4, nil},
		{longWord(60), impl.MaxWord, []string{longWord(60)}},
		{longWord(59), impl.MaxWord, nil},
		{longWord(59), 59, []string{longWord(59)}},
		{strings.Repeat("a", 60), 1, []string{"a"}},
		{strings.Repeat("a", 60), impl.MaxWord, []string{strings.Repeat("a", 60)}},
		{strings.Repeat("a", 59) + "b", 59, nil},
		{strings.Repeat("a", 59) + "b", 60, []string{strings.Repeat("a", 59) + "b"}},
	}
	for _, c := range cases {
		got, code := impl.SeedsOf(c.w, c.m)
		wantList(t, fmt.Sprintf("SeedsOf(%q, %d)", c.w, c.m), got, code, c.want, impl.ErrNone)
	}
}

func TestSeedsAndLeastSeedAsDefined(t *testing.T) {
	for _, w := range coverWords() {
		least := ""
		for m := 1; m <= impl.MaxWord; m++ {
			var want []string
			for _, u := range different(w, m) {
				if isSeedByPlaces(w, u) {
					want = append(want, u)
				}
			}
			if least == "" && len(want) > 0 {
				least = want[0]
			}
			got, code := impl.SeedsOf(w, int64(m))
			wantList(t, fmt.Sprintf("SeedsOf(%q, %d)", w, m), got, code, want, impl.ErrNone)
		}
		wantCode := int64(impl.ErrNone)
		if w == "" {
			wantCode = impl.ErrNotFound
		}
		got, code := impl.LeastSeed(w)
		wantWord(t, fmt.Sprintf("LeastSeed(%q)", w), got, code, least, wantCode)
	}
}

func TestLeastSeed(t *testing.T) {
	cases := []struct{ w, want string }{
		{"baabaab", "aab"},
		{"ababa", "ab"},
		{"babab", "ab"},
		{"aaaa", "a"},
		{"ab", "ab"},
		{"ba", "ba"},
		{"aba", "ab"},
		{"abaababa", "aba"},
		{"abacaba", "abac"},
		{"abcabca", "abc"},
		{"aabaacaabaa", "aabaac"},
		// The shorter one comes first, although the longer ones come before it as words.
		{"aabab", "aba"},
		{"bbcbc", "bcb"},
		{"aababa", "aba"},
		{"aabbab", "abba"},
		{longWord(60), "abcde"},
		{strings.Repeat("e", 60), "e"},
		{strings.Repeat("a", 59) + "b", strings.Repeat("a", 59) + "b"},
		{"b" + strings.Repeat("a", 59), "b" + strings.Repeat("a", 59)},
		{strings.Repeat("a", 58) + "ba", strings.Repeat("a", 58) + "b"},
	}
	for _, c := range cases {
		got, code := impl.LeastSeed(c.w)
		wantWord(t, fmt.Sprintf("LeastSeed(%q)", c.w), got, code, c.want, impl.ErrNone)
	}
}

func TestBestBorder(t *testing.T) {
	cases := []struct {
		w      string
		want   string
		places int64
		code   int64
	}{
		{"abacaba", "aba", 6, impl.ErrNone},
		{"aba", "a", 2, impl.ErrNone},
		{"abab", "ab", 4, impl.ErrNone},
		{"abcab", "ab", 4, impl.ErrNone},
		{"abaab", "ab", 4, impl.ErrNone},
		{"abaababa", "aba", 8, impl.ErrNone},
		{"aabaacaabaa", "aabaa", 10, impl.ErrNone},
		// Shorter ones that cover as much, or more.
		{"aaa", "a", 3, impl.ErrNone},
		{"aa", "a", 2, impl.ErrNone},
		{"aabaa", "a", 4, impl.ErrNone},
		{"aababaa", "a", 5, impl.ErrNone},
		{"abaabaaba", "aba", 9, impl.ErrNone},
		{"aabbabaa", "a", 5, impl.ErrNone},
		// A word is no border word of itself.
		{"ab", anError, 0, impl.ErrNotFound},
		{"abc", anError, 0, impl.ErrNotFound},
		{"aab", anError, 0, impl.ErrNotFound},
		{longWord(5), anError, 0, impl.ErrNotFound},
		{longWord(60), "abcde", 60, impl.ErrNone},
		{longWord(59), longWord(9), 59, impl.ErrNone},
		{strings.Repeat("a", 60), "a", 60, impl.ErrNone},
		{strings.Repeat("a", 59) + "b", anError, 0, impl.ErrNotFound},
		{strings.Repeat("a", 30) + "b" + strings.Repeat("a", 29), "a", 59, impl.ErrNone},
		{"ab" + strings.Repeat("c", 56) + "ab", "ab", 4, impl.ErrNone},
		{"a" + strings.Repeat("b", 58) + "a", "a", 2, impl.ErrNone},
	}
	for _, c := range cases {
		got, places, code := impl.BestBorder(c.w)
		wantWordAndNumber(t, fmt.Sprintf("BestBorder(%q)", c.w), got, places, code, c.want, c.places, c.code)
	}
}

func TestBestBorderAsDefined(t *testing.T) {
	for _, w := range coverWords() {
		best, most := anError, 0
		for b := 1; b < len(w); b++ {
			if w[:b] != w[len(w)-b:] {
				continue
			}
			if places := len(w) - len(uncoveredAsDefined(w, w[:b])); places > most {
				best, most = w[:b], places
			}
		}
		wantCode := int64(impl.ErrNone)
		if !isBordered(w) {
			wantCode = impl.ErrNotFound
		}
		got, places, code := impl.BestBorder(w)
		wantWordAndNumber(t, fmt.Sprintf("BestBorder(%q)", w), got, places, code, best, int64(most), wantCode)
	}
}

func TestCoveredByTwo(t *testing.T) {
	cases := []struct {
		w, u, v string
		want    bool
	}{
		{"abcab", "ab", "c", true},
		{"abcab", "ab", "d", false},
		{"abcab", "a", "bc", false},
		{"abcab", "abc", "ab", true},
		{"abcab", "abc", "b", false},
		{"ababa", "aba", "c", true},
		{"ababa", "aba", "aba", true},
		{"ababa", "ab", "ab", false},
		{"ababa", "ab", "a", true},
		{"ab", "a", "b", true},
		{"ab", "a", "a", false},
		{"abc", "a", "c", false},
		{"abc", "abcd", "abc", true},
		{"abc", "abcd", "ab", false},
		{"abc", "abcd", "bcda", false},
		{longWord(60), longWord(60), "a", true},
		{longWord(60), longWord(59), "e", true},
		{longWord(60), longWord(58), "e", false},
		{longWord(60), "abc", "de", true},
		{longWord(60), "abc", "e", false},
		{strings.Repeat("a", 59) + "b", "a", "b", true},
		{strings.Repeat("a", 59) + "b", "aa", "ab", true},
		{strings.Repeat("a", 59) + "b", "aa", "bb", false},
		{strings.Repeat("a", 30) + "b" + strings.Repeat("c", 29), "aab", "c", false},
	}
	for _, c := range cases {
		got, code := impl.CoveredByTwo(c.w, c.u, c.v)
		wantAnswer(t, fmt.Sprintf("CoveredByTwo(%q, %q, %q)", c.w, c.u, c.v), got, code, c.want, impl.ErrNone)
		got, code = impl.CoveredByTwo(c.w, c.v, c.u)
		wantAnswer(t, fmt.Sprintf("CoveredByTwo(%q, %q, %q)", c.w, c.v, c.u), got, code, c.want, impl.ErrNone)
	}
}

// Two words need not have the same length, and one of them may cover nothing.
func TestCoveredByTwoAsDefined(t *testing.T) {
	for _, w := range shortCoverWords() {
		words := append(factorsByLength(w), "c", w+"b")
		for _, u := range words {
			for _, v := range words {
				got, code := impl.CoveredByTwo(w, u, v)
				want := len(uncoveredAsDefined(w, u, v)) == 0
				wantAnswer(t, fmt.Sprintf("CoveredByTwo(%q, %q, %q)", w, u, v), got, code, want, impl.ErrNone)
			}
		}
	}
}

func TestFirstTwo(t *testing.T) {
	cases := []struct {
		w    string
		m    int64
		want []string
		code int64
	}{
		{"abcabc", 2, []string{"ab", "bc"}, impl.ErrNone},
		{"abcabc", 1, nil, impl.ErrNotFound},
		{"abcabc", 3, []string{"abc", "bca"}, impl.ErrNone},
		{"abcabc", 5, []string{"abcab", "bcabc"}, impl.ErrNone},
		{"abcabc", 6, nil, impl.ErrNotFound},
		{"abcabc", 7, nil, impl.ErrNotFound},
		{"abcabc", impl.MaxWord, nil, impl.ErrNotFound},
		{"aaa", 1, nil, impl.ErrNotFound},
		{"aaa", 2, nil, impl.ErrNotFound},
		{"ab", 1, []string{"a", "b"}, impl.ErrNone},
		// They come in the order of words, not of their places.
		{"ba", 1, []string{"a", "b"}, impl.ErrNone},
		{"bab", 2, []string{"ab", "ba"}, impl.ErrNone},
		{"abcab", 2, []string{"ab", "bc"}, impl.ErrNone},
		{"abcabca", 2, []string{"ab", "ca"}, impl.ErrNone},
		// The first one alone is a cover: the other one is the next factor, whatever it covers.
		{"aabaabaa", 5, []string{"aabaa", "abaab"}, impl.ErrNone},
		{"abaababa", 3, []string{"aab", "aba"}, impl.ErrNone},
		{"abacaba", 3, []string{"aba", "aca"}, impl.ErrNone},
		{"abacaba", 2, nil, impl.ErrNotFound},
		{"abab", 4, nil, impl.ErrNotFound},
		{longWord(60), 5, []string{"abcde", "bcdea"}, impl.ErrNone},
		{longWord(60), 4, []string{"abcd", "bcde"}, impl.ErrNone},
		{longWord(60), 2, nil, impl.ErrNotFound},
		{longWord(60), 3, []string{"abc", "cde"}, impl.ErrNone},
		{longWord(60), 59, []string{longWord(59), longWord(60)[1:]}, impl.ErrNone},
		{longWord(60), 60, nil, impl.ErrNotFound},
		{strings.Repeat("a", 60), 30, nil, impl.ErrNotFound},
		{strings.Repeat("a", 59) + "b", 1, []string{"a", "b"}, impl.ErrNone},
		{strings.Repeat("a", 59) + "b", 59, []string{strings.Repeat("a", 59), strings.Repeat("a", 58) + "b"}, impl.ErrNone},
	}
	for _, c := range cases {
		got, code := impl.FirstTwo(c.w, c.m)
		wantList(t, fmt.Sprintf("FirstTwo(%q, %d)", c.w, c.m), got, code, c.want, c.code)
	}
}

// firstTwoAsDefined returns the first two factors of w with m letters that cover it together, if there are such factors.
func firstTwoAsDefined(w string, m int) []string {
	factors := different(w, m)
	for i, u := range factors {
		for _, v := range factors[i+1:] {
			if len(uncoveredAsDefined(w, u, v)) == 0 {
				return []string{u, v}
			}
		}
	}
	return nil
}

func TestFirstTwoAsDefined(t *testing.T) {
	for _, w := range coverWords() {
		for m := 1; m <= len(w)+1 && m <= impl.MaxWord; m++ {
			want := firstTwoAsDefined(w, m)
			wantCode := int64(impl.ErrNone)
			if want == nil {
				wantCode = impl.ErrNotFound
			}
			got, code := impl.FirstTwo(w, int64(m))
			wantList(t, fmt.Sprintf("FirstTwo(%q, %d)", w, m), got, code, want, wantCode)
		}
	}
}

// A length that is out of range is ErrRange also where nothing could be found.
func TestLengthsOfCoversOutside(t *testing.T) {
	for _, m := range wrongCoverLengths {
		for _, w := range []string{"", "a", "aaa", "abcabc", longWord(59), longWord(60)} {
			lengthIsRefused(t, w, m, impl.ErrRange)
		}
	}
}

func TestGrowByCover(t *testing.T) {
	sixty, fiftyNine := strings.Repeat("a", 60), strings.Repeat("a", 59)
	cases := []struct {
		u    string
		list []int64
		want string
		code int64
	}{
		{"aba", []int64{1, 0}, "ababaaba", impl.ErrNone},
		{"aba", nil, "aba", impl.ErrNone},
		{"aba", []int64{}, "aba", impl.ErrNone},
		{"aba", []int64{0}, "abaaba", impl.ErrNone},
		{"aba", []int64{1}, "ababa", impl.ErrNone},
		{"aba", []int64{1, 1}, "abababa", impl.ErrNone},
		{"aba", []int64{0, 1}, "abaababa", impl.ErrNone},
		{"aba", []int64{2}, anError, impl.ErrNotFound},
		{"aba", []int64{1, 2, 0}, anError, impl.ErrNotFound},
		{"abaab", []int64{2, 0, 2}, "abaabaababaabaab", impl.ErrNone},
		{"abaab", []int64{1}, anError, impl.ErrNotFound},
		{"aaa", []int64{0, 1, 2}, "aaaaaaaaa", impl.ErrNone},
		{"a", []int64{0, 0}, "aaa", impl.ErrNone},
		{"a", nil, "a", impl.ErrNone},
		{"e", []int64{0}, "ee", impl.ErrNone},
		{"ab", []int64{1}, anError, impl.ErrNotFound},
		{"ab", []int64{0, 0}, "ababab", impl.ErrNone},
		// Just MaxWord letters, and one more.
		{"a", make([]int64, 59), sixty, impl.ErrNone},
		{"a", make([]int64, 60), anError, impl.ErrLimit},
		{"aa", slices.Repeat([]int64{1}, 58), sixty, impl.ErrNone},
		{"aa", slices.Repeat([]int64{1}, 59), anError, impl.ErrLimit},
		{"aa", make([]int64, 29), sixty, impl.ErrNone},
		{"aa", append(make([]int64, 28), 1), fiftyNine, impl.ErrNone},
		{"aa", append(make([]int64, 29), 1), anError, impl.ErrLimit},
		{"abcde", make([]int64, 11), longWord(60), impl.ErrNone},
		{"abcde", make([]int64, 12), anError, impl.ErrLimit},
		{fiftyNine, []int64{58}, sixty, impl.ErrNone},
		{fiftyNine, []int64{57}, anError, impl.ErrLimit},
		{fiftyNine, []int64{58, 58}, anError, impl.ErrLimit},
		{sixty, nil, sixty, impl.ErrNone},
		{sixty, []int64{59}, anError, impl.ErrLimit},
		{sixty, []int64{0}, anError, impl.ErrLimit},
		{longWord(60), nil, longWord(60), impl.ErrNone},
		{longWord(55), []int64{50}, longWord(60), impl.ErrNone},
		{longWord(56), []int64{51}, anError, impl.ErrLimit},
		{longWord(31), []int64{1}, anError, impl.ErrLimit},
		{longWord(30), []int64{0}, longWord(60), impl.ErrNone},
		{"aba" + strings.Repeat("c", 26) + "aba", []int64{3}, anError, impl.ErrLimit},
		{"aba" + strings.Repeat("c", 25) + "aba", []int64{3}, "aba" + strings.Repeat("c", 25) + "aba" + strings.Repeat("c", 25) + "aba", impl.ErrNone},
		{"a", make([]int64, 100000), anError, impl.ErrLimit},
	}
	for _, c := range cases {
		got, code := impl.GrowByCover(c.u, c.list)
		wantWord(t, fmt.Sprintf("GrowByCover(%q, %.80s)", c.u, fmt.Sprint(c.list)), got, code, c.want, c.code)
	}
}

// The empty word, and numbers that are out of range, are ErrRange wherever in the list, before what does not fit and what is too long.
func TestGrowthsOutside(t *testing.T) {
	for _, list := range [][]int64{nil, {0}, {1}, {-1}, {math.MinInt64}, make([]int64, 100)} {
		word, code := impl.GrowByCover("", list)
		wantWord(t, fmt.Sprintf(`GrowByCover("", %v)`, list), word, code, anError, impl.ErrRange)
	}
	for _, u := range []string{"a", "ab", "aba", "aaa", longWord(59), longWord(60), strings.Repeat("a", 60)} {
		n := int64(len(u))
		tooLong, unfit := make([]int64, 100), []int64{1 % n}
		for _, wrong := range []int64{n, n + 1, -1, -n, 60, 61, 1000, math.MaxInt64, math.MinInt64, math.MinInt64 + 1} {
			for _, list := range [][]int64{{wrong}, {0, wrong}, {wrong, 0}, append(tooLong, wrong), append([]int64{wrong}, tooLong...),
				append(unfit, wrong), append([]int64{wrong}, unfit...), {wrong, wrong}} {
				word, code := impl.GrowByCover(u, list)
				wantWord(t, fmt.Sprintf("GrowByCover(%q, %v)", u, list), word, code, anError, impl.ErrRange)
			}
		}
	}
}

// A number that does not fit is ErrNotFound wherever in the list, also if the word would be too long before it.
func TestGrowthsThatDoNotFit(t *testing.T) {
	zeros := make([]int64, 100)
	for u, wrong := range map[string]int64{"ab": 1, "aba": 2, "abaab": 3, longWord(59): 58, longWord(60): 59, strings.Repeat("a", 59) + "b": 1} {
		for _, list := range [][]int64{{wrong}, {0, wrong}, {wrong, 0}, append(zeros, wrong), append([]int64{wrong}, zeros...)} {
			word, code := impl.GrowByCover(u, list)
			wantWord(t, fmt.Sprintf("GrowByCover(%q, %v)", u, list), word, code, anError, impl.ErrNotFound)
		}
	}
}

// grownAsTold returns the word that is put together from u and a list, with the code for it.
func grownAsTold(u string, list []int64) (string, int64) {
	word := u
	for _, k := range list {
		if !strings.HasPrefix(u, u[len(u)-int(k):]) {
			return anError, impl.ErrNotFound
		}
		word += u[k:]
	}
	if len(word) > impl.MaxWord {
		return anError, impl.ErrLimit
	}
	return word, impl.ErrNone
}

// Promise 9 and the guarantee: grown words have their covers. All lists of up to three numbers are tried.
func TestPromiseGrownWordsHaveTheirCovers(t *testing.T) {
	grown := 0
	words := append(allWords(6, 2), "abcab", "abcabca", "abacaba", "abaababaabaab", longWord(19), longWord(20), longWord(21), strings.Repeat("a", 20))
	for _, u := range words {
		lists := [][]int64{nil}
		for from := 0; from < len(lists); from++ {
			list := lists[from]
			for k := 0; k < len(u) && len(list) < 3; k++ {
				lists = append(lists, append(slices.Clone(list), int64(k)))
			}
			if u == "" {
				continue
			}
			want, wantCode := grownAsTold(u, list)
			word, code := impl.GrowByCover(u, list)
			wantWord(t, fmt.Sprintf("GrowByCover(%q, %v)", u, list), word, code, want, wantCode)
			if code == impl.ErrNone {
				covered, code := impl.IsCover(word, u)
				wantAnswer(t, fmt.Sprintf("IsCover(%q, %q)", word, u), covered, code, true, impl.ErrNone)
				grown++
			}
		}
	}
	if grown < 1000 {
		t.Errorf("just %d words were grown", grown)
	}
}

// The other way round, each word comes from each of its covers by the list of what neighbours have in common.
func TestCoveredWordsAreGrown(t *testing.T) {
	for _, w := range coverWords() {
		covers, _ := impl.CoversOf(w)
		for _, u := range covers {
			var list []int64
			last := 0
			for i := 1; i+len(u) <= len(w); i++ {
				if strings.HasPrefix(w[i:], u) {
					list = append(list, int64(last+len(u)-i))
					last = i
				}
			}
			got, code := impl.GrowByCover(u, list)
			wantWord(t, fmt.Sprintf("GrowByCover(%q, %v)", u, list), got, code, w, impl.ErrNone)
		}
	}
}

// Promise 9: least covers are superprimitive.
func TestPromiseLeastCoversAreSuperprimitive(t *testing.T) {
	for _, w := range coverWords() {
		least, code := impl.LeastCover(w)
		if w == "" {
			continue
		}
		if code != impl.ErrNone {
			t.Fatalf("LeastCover(%q): code %d", w, code)
		}
		primitive, code := impl.IsSuperprimitive(least)
		wantAnswer(t, fmt.Sprintf("IsSuperprimitive(%q)", least), primitive, code, true, impl.ErrNone)
		covers, code := impl.CoversOf(least)
		wantList(t, fmt.Sprintf("CoversOf(%q)", least), covers, code, []string{least}, impl.ErrNone)
		lengths, code := impl.CoverLengths(w)
		if code != impl.ErrNone || lengths[len(w)-1] != int64(len(least)) {
			t.Errorf("CoverLengths(%q) = %v, %d, but the least cover is %q", w, lengths, code, least)
		}
	}
}

// Promise 17: covers but the word are borders, and covers are seeds.
func TestPromiseCoversAreBordersAndSeeds(t *testing.T) {
	for _, w := range coverWords() {
		covers, code := impl.CoversOf(w)
		if code != impl.ErrNone {
			t.Fatalf("CoversOf(%q): code %d", w, code)
		}
		borders, _ := impl.BordersOf(w)
		for _, u := range covers {
			if u != w && (!slices.Contains(borders, int64(len(u))) || !strings.HasPrefix(w, u)) {
				t.Errorf("%q, a cover of %q, is no border of it: %v", u, w, borders)
			}
			seed, code := impl.IsSeed(w, u)
			wantAnswer(t, fmt.Sprintf("IsSeed(%q, %q)", w, u), seed, code, true, impl.ErrNone)
			seeds, code := impl.SeedsOf(w, int64(len(u)))
			if code != impl.ErrNone || !slices.Contains(seeds, u) {
				t.Errorf("SeedsOf(%q, %d) = %q, %d, without %q", w, len(u), seeds, code, u)
			}
		}
	}
}

// The guarantee: covers cover all places.
func TestGuaranteeCoversCoverAllPlaces(t *testing.T) {
	for _, w := range coverWords() {
		covers, _ := impl.CoversOf(w)
		for _, u := range covers {
			places, code := impl.UncoveredPlaces(w, u)
			wantList(t, fmt.Sprintf("UncoveredPlaces(%q, %q)", w, u), places, code, nil, impl.ErrNone)
			both, code := impl.CoveredByTwo(w, u, "e")
			wantAnswer(t, fmt.Sprintf(`CoveredByTwo(%q, %q, "e")`, w, u), both, code, true, impl.ErrNone)
		}
		if w != "" && covers[len(covers)-1] != w {
			t.Errorf("CoversOf(%q) = %q, without the word", w, covers)
		}
	}
}

// A border word that covers all places is a cover, and there is one just if a word is not superprimitive.
func TestBestBordersOfCoveredWords(t *testing.T) {
	for _, w := range coverWords() {
		best, places, _ := impl.BestBorder(w)
		primitive, _ := impl.IsSuperprimitive(w)
		if w == "" {
			continue
		}
		if whole := places == int64(len(w)); whole == primitive {
			t.Errorf("BestBorder(%q) = %q, %d, but IsSuperprimitive is %v", w, best, places, primitive)
		}
		if least, _ := impl.LeastCover(w); !primitive && best != least {
			t.Errorf("BestBorder(%q) = %q, but the least cover is %q", w, best, least)
		}
	}
}

func TestResultsOfCoversAreNew(t *testing.T) {
	resultsAreNew(t, "CoversOf", func() ([]string, int64) { return impl.CoversOf("abaabaaba") }, "x")
	resultsAreNew(t, "CoverLengths", func() ([]int64, int64) { return impl.CoverLengths("ababaa") }, 77)
	resultsAreNew(t, "UncoveredPlaces", func() ([]int64, int64) { return impl.UncoveredPlaces("abaabb", "ab") }, 77)
	resultsAreNew(t, "SeedsOf", func() ([]string, int64) { return impl.SeedsOf("ababa", 2) }, "x")
	resultsAreNew(t, "FirstTwo", func() ([]string, int64) { return impl.FirstTwo("abcabc", 2) }, "x")
}

// GrowByCover changes neither its list nor the capacity behind it.
func TestListsOfGrowthsStay(t *testing.T) {
	whole := []int64{1, 0, 1, 77, 77}
	for range 2 {
		word, code := impl.GrowByCover("aba", whole[:3])
		wantWord(t, "GrowByCover", word, code, "ababaababa", impl.ErrNone)
	}
	if !slices.Equal(whole, []int64{1, 0, 1, 77, 77}) {
		t.Errorf("the list is %v", whole)
	}
}
