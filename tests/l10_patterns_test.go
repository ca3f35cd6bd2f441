package tests

import (
	"fmt"
	"math"
	"slices"
	"strings"
	"testing"

	"loop.example/g01371/impl"
)

// notPatterns are strings that are not patterns: the empty one, bytes beside the variables, bytes that are no letters of any text,
// and more variables than a pattern may have.
var notPatterns = []string{"", "D", "@", "a", "abc", "Aa", "aA", "AbA", "ABD", "DAB", "ADB", "A B", " AB", "AB ", " ", "AB\n", "A\x00B", "\x00",
	"A\xff", "\xff", "\u0410", "A\u00c1B", "A1", "1", "ABCABCABC", "AAAAAAAAA", "ABCABCABCD", strings.Repeat("A", 61), strings.Repeat("CBA", 300)}

// longPatterns are patterns of five bytes and more, with one to three variables.
var longPatterns = []string{"ABABA", "AABAA", "CBABC", "ABACA", "ABCAB", "AAAAA", "AABAAB", "ABCABC", "CBACBA", "ABCCBA", "AABBCC", "CCAABB",
	"ABACABA", "CACBCAC", "BCBABCB", "ABCBABC", "AAAAAAA", "ABCABCAB", "BAAABAAA", "AAAAAAAA", "CCCCCCCC", "ABBABAAB", "ACBCABAC"}

// allPatterns returns all patterns of at most n bytes, shorter ones first.
func allPatterns(n int) []string {
	var all []string
	last := []string{""}
	for range n {
		var next []string
		for _, p := range last {
			next = append(next, p+"A", p+"B", p+"C")
		}
		all = append(all, next...)
		last = next
	}
	return all
}

// namedWord returns the first n letters of a word with a name.
func namedWord(t *testing.T, name string, n int64) string {
	t.Helper()
	w, code := impl.NamedWord(name, n)
	if code != impl.ErrNone {
		t.Fatalf("NamedWord(%q, %d): code %d", name, n, code)
	}
	return w
}

// patternWords are words of several lengths with few and with many patterns.
func patternWords() []string {
	return append(allWords(6, 2), append(allWords(4, 3), "abcabc", "abcdabcd", "abccbcc", "cbbcbba", "aababb", "bcbcaab", "abacaba", "aaaaaaaa",
		"abababab", "abcdeab", "edcbaed", "eabcabd", "ddedded", "aabbccaa", "cabcabb")...)
}

// valuesIn are the values of A, B and C, empty for a variable that has none.
type valuesIn [3]string

// valuesAsDefined returns all values that make w from p, if some variables have values already.
func valuesAsDefined(w string, p string, known valuesIn) []valuesIn {
	if p == "" {
		if w == "" {
			return []valuesIn{known}
		}
		return nil
	}
	variable := p[0] - 'A'
	if value := known[variable]; value != "" {
		if !strings.HasPrefix(w, value) {
			return nil
		}
		return valuesAsDefined(w[len(value):], p[1:], known)
	}
	var all []valuesIn
	for m := 1; m <= len(w); m++ {
		known[variable] = w[:m]
		all = append(all, valuesAsDefined(w[m:], p[1:], known)...)
	}
	return all
}

// fitsAsDefined reports whether some values make w from p.
func fitsAsDefined(w string, p string) bool {
	return len(valuesAsDefined(w, p, valuesIn{})) > 0
}

// lengthsOf returns the numbers of letters of values that are there.
func lengthsOf(values valuesIn) []int {
	var lengths []int
	for _, value := range values {
		if value != "" {
			lengths = append(lengths, len(value))
		}
	}
	return lengths
}

// firstAsDefined returns the first place of p in w and the values there, and whether w has p.
func firstAsDefined(w string, p string) (int64, []string, bool) {
	for i := range w {
		for j := i + 1; j <= len(w); j++ {
			all := valuesAsDefined(w[i:j], p, valuesIn{})
			if len(all) == 0 {
				continue
			}
			least := slices.MinFunc(all, func(x valuesIn, y valuesIn) int { return slices.Compare(lengthsOf(x), lengthsOf(y)) })
			return int64(i), slices.DeleteFunc(least[:], func(value string) bool { return value == "" }), true
		}
	}
	return 0, nil, false
}

// hasAsDefined reports whether some factor of w fits p.
func hasAsDefined(w string, p string) bool {
	_, _, has := firstAsDefined(w, p)
	return has
}

// avoidersAsDefined returns the words of n letters with the first k letters that avoid p, in order.
func avoidersAsDefined(p string, k int, n int) []string {
	var words []string
	for _, w := range allWords(n, k) {
		if len(w) == n && !hasAsDefined(w, p) {
			words = append(words, w)
		}
	}
	return words
}

// longestAsDefined returns how many letters, at most 11, the words with the first k letters that avoid p and begin with w have.
func longestAsDefined(w string, p string, k int) int {
	longest := len(w)
	for _, letter := range "abcde"[:k] {
		if longest == 11 {
			break
		}
		longer := w + string(letter)
		if !hasAsDefined(longer, p) {
			longest = max(longest, longestAsDefined(longer, p, k))
		}
	}
	return longest
}

// differentVariables returns how many variables stand in a pattern.
func differentVariables(p string) int64 {
	return int64(len(different(p, 1)))
}

// made returns the word that comes from p with the values of its variables, in their order.
func made(p string, values []string) string {
	var word strings.Builder
	variables := different(p, 1)
	for _, variable := range p {
		word.WriteString(values[slices.Index(variables, string(variable))])
	}
	return word.String()
}

func wantFirst(t *testing.T, w string, p string, place int64, values []string, wantCode int64) {
	t.Helper()
	gotPlace, gotValues, code := impl.FirstPlace(w, p)
	if gotPlace != place || !slices.Equal(gotValues, values) || code != wantCode {
		t.Errorf("FirstPlace(%q, %q) = %d, %q, %d, not %d, %q, %d", w, p, gotPlace, gotValues, code, place, values, wantCode)
	}
}

// patternInWordIsRefused tests that the functions with a word and a pattern return zero values and a code.
func patternInWordIsRefused(t *testing.T, w string, p string, want int64) {
	t.Helper()
	of := fmt.Sprintf("(%q, %q)", w, p)
	has, code := impl.HasPattern(w, p)
	wantAnswer(t, "HasPattern"+of, has, code, false, want)
	fits, code := impl.FitsPattern(w, p)
	wantAnswer(t, "FitsPattern"+of, fits, code, false, want)
	wantFirst(t, w, p, 0, nil, want)
}

// avoidedIsRefused tests that the functions with a pattern and words that avoid it return zero values and a code.
func avoidedIsRefused(t *testing.T, p string, k int64, n int64, want int64) {
	t.Helper()
	countIsRefused(t, p, k, n, want)
	firstIsRefused(t, p, k, n, want)
	longestIsRefused(t, p, k, want)
}

func countIsRefused(t *testing.T, p string, k int64, n int64, want int64) {
	t.Helper()
	count, code := impl.CountAvoiding(p, k, n)
	wantNumber(t, fmt.Sprintf("CountAvoiding(%q, %d, %d)", p, k, n), count, code, 0, want)
}

func firstIsRefused(t *testing.T, p string, k int64, n int64, want int64) {
	t.Helper()
	first, code := impl.FirstAvoiding(p, k, n)
	wantWord(t, fmt.Sprintf("FirstAvoiding(%q, %d, %d)", p, k, n), first, code, anError, want)
}

func longestIsRefused(t *testing.T, p string, k int64, want int64) {
	t.Helper()
	longest, code := impl.LongestAvoiding(p, k)
	wantNumber(t, fmt.Sprintf("LongestAvoiding(%q, %d)", p, k), longest, code, 0, want)
}

func TestIsPattern(t *testing.T) {
	for _, p := range append(allPatterns(6), longPatterns...) {
		if !impl.IsPattern(p) {
			t.Errorf("IsPattern(%q) = false", p)
		}
	}
	for _, p := range notPatterns {
		if impl.IsPattern(p) {
			t.Errorf("IsPattern(%q) = true", p)
		}
	}
}

// Each byte is tried, at each place of patterns with the fewest, with some and with the most bytes.
func TestIsPatternForEachByte(t *testing.T) {
	for b := range 256 {
		want := b == 'A' || b == 'B' || b == 'C'
		for _, whole := range []string{"A", "BC", "CAB", "ABCABCAB"} {
			for i := range whole {
				p := whole[:i] + string([]byte{byte(b)}) + whole[i+1:]
				if got := impl.IsPattern(p); got != want {
					t.Errorf("IsPattern(%q) = %v", p, got)
				}
			}
		}
	}
}

// What is not a pattern is refused beside all words, and what is not a word beside all patterns.
func TestPatternsAndWordsInvalid(t *testing.T) {
	for _, p := range notPatterns {
		for _, w := range []string{"", "a", "abcab", "e", longWord(60), "f", longWord(60) + "a"} {
			patternInWordIsRefused(t, w, p, impl.ErrInvalid)
		}
		for _, k := range []int64{1, 2, 3, 0, 4, -1, math.MaxInt64, math.MinInt64} {
			for _, n := range []int64{0, 5, 9, 12, -1, 13, math.MaxInt64, math.MinInt64} {
				avoidedIsRefused(t, p, k, n, impl.ErrInvalid)
			}
		}
		unavoidable, code := impl.IsUnavoidable(p)
		wantAnswer(t, fmt.Sprintf("IsUnavoidable(%q)", p), unavoidable, code, false, impl.ErrInvalid)
	}
	for _, w := range append(notWords, "A", "AB", "ABA", strings.Repeat("ab", 31)) {
		for _, p := range []string{"A", "AA", "ABA", "ABCABCAB", "CCCCCCCC"} {
			patternInWordIsRefused(t, w, p, impl.ErrInvalid)
		}
	}
}

// Words and patterns that are given the wrong way round are neither.
func TestPatternsAndWordsChanged(t *testing.T) {
	for _, c := range []struct{ w, p string }{{"abab", "AA"}, {"a", "A"}, {"cab", "ABC"}} {
		patternInWordIsRefused(t, c.p, c.w, impl.ErrInvalid)
	}
}

func TestHasAndFitsPattern(t *testing.T) {
	sixty, fiftyNine := strings.Repeat("a", 60), strings.Repeat("a", 59)
	cases := []struct {
		w, p      string
		has, fits bool
	}{
		{"abcbab", "ABA", true, true},
		{"abcab", "ABA", true, true},
		{"abcabd", "ABA", true, false},
		// The empty word has no letters for a variable.
		{"", "A", false, false},
		{"", "C", false, false},
		{"", "AA", false, false},
		{"", "ABC", false, false},
		{"", "ABCABCAB", false, false},
		// One variable stands for each word with letters.
		{"a", "A", true, true},
		{"e", "C", true, true},
		{"abcde", "B", true, true},
		{longWord(60), "A", true, true},
		{sixty, "C", true, true},
		// Words that are shorter than the pattern.
		{"a", "AA", false, false},
		{"a", "AB", false, false},
		{"aa", "AAA", false, false},
		{"aa", "ABC", false, false},
		{"aaa", "ABBA", false, false},
		{"aaaaaaa", "AAAAAAAA", false, false},
		{"abcabca", "ABCABCAB", false, false},
		// Different variables may have the same value.
		{"aa", "AB", true, true},
		{"aaa", "ABC", true, true},
		{"aaa", "CBC", true, true},
		{"aaaa", "ABBA", true, true},
		{"aaaaaaa", "ABACABA", true, true},
		{"aaaaaaaa", "ABCABCAB", true, true},
		// The same variable several times has the same value each time.
		{"aa", "AA", true, true},
		{"ab", "AA", false, false},
		{"abab", "AA", true, true},
		{"abab", "BB", true, true},
		{"abab", "CC", true, true},
		{"abaab", "AA", true, false},
		{"ababa", "AA", true, false},
		{"abcabd", "AA", false, false},
		{"abcdabcd", "AA", true, true},
		{"abba", "ABBA", true, true},
		{"abba", "BAAB", true, true},
		{"abba", "ABAB", false, false},
		{"abccba", "ABCCBA", true, true},
		{"abccba", "CBAABC", true, true},
		{"abccba", "ABCABC", false, false},
		{"aabaab", "AABAAB", true, true},
		{"aabaab", "AABAAC", true, true},
		{"aabaac", "AABAAB", false, false},
		{"ababab", "AAA", true, true},
		{"abababa", "AAA", true, false},
		{"cababab", "AAA", true, false},
		{"abababab", "AAAA", true, true},
		{"abababababababab", "AAAAAAAA", true, true},
		{"abababababababa", "AAAAAAAA", false, false},
		{"aaaaaaaab", "AAAAAAAA", true, false},
		{"baaaaaaaa", "AAAAAAAA", true, false},
		// Patterns that lack A or B are as those in which other variables stand for these.
		{"abcab", "CBC", true, true},
		{"abcab", "BAB", true, true},
		{"abcab", "CAC", true, true},
		{"abcde", "BCB", false, false},
		{"abcde", "BC", true, true},
		{"abcde", "CB", true, true},
		{"ab", "CA", true, true},
		{"abac", "BCBA", true, true},
		// A word fits, but no factor beside itself.
		{"abcdea", "ABA", true, true},
		{"abcdeabcde", "ABCABC", true, true},
		{"abcdeabcde", "AAB", false, false},
		// A factor in the middle.
		{"cabbad", "ABBA", true, false},
		{"edcddcde", "ABBA", true, true},
		{"eaabbd", "AABB", true, false},
		{"eddcdcabb", "AABB", false, false},
		// Words of the most letters.
		{sixty, "AAAAAA", true, true},
		{sixty, "AAAAAAA", true, false},
		{sixty, "AAAAAAAA", true, false},
		{fiftyNine, "AA", true, false},
		{fiftyNine, "AAB", true, true},
		{fiftyNine, "AAAAAAAB", true, true},
		{longWord(60), "AAAAAA", true, true},
		{longWord(60), "AAAAA", true, false},
		{longWord(60), "AAAAAAAA", true, false},
		{longWord(60), "ABCABCAB", true, true},
		{longWord(59), "AAAAAA", true, false},
		{longWord(30) + strings.Repeat("c", 30), "ABB", true, true},
		{strings.Repeat("a", 30) + strings.Repeat("b", 30), "AABB", true, true},
		{strings.Repeat("a", 30) + strings.Repeat("b", 30), "ABAB", true, false},
		{strings.Repeat("a", 29) + "b" + strings.Repeat("a", 29) + "b", "AA", true, true},
		{strings.Repeat("a", 29) + "b" + strings.Repeat("a", 30), "ABA", true, true},
		{strings.Repeat("a", 59) + "b", "ABA", true, false},
	}
	for _, c := range cases {
		of := fmt.Sprintf("(%q, %q)", c.w, c.p)
		has, code := impl.HasPattern(c.w, c.p)
		wantAnswer(t, "HasPattern"+of, has, code, c.has, impl.ErrNone)
		fits, code := impl.FitsPattern(c.w, c.p)
		wantAnswer(t, "FitsPattern"+of, fits, code, c.fits, impl.ErrNone)
	}
}

// Words with names of the most letters: one has no square, one no cube, one cubes, but no power of 4.
func TestHasPatternInLongWords(t *testing.T) {
	for name, has := range map[string][]bool{
		"triple":    {false, false, false, true, false, false, false, false, false, false},
		"thue":      {true, false, false, true, true, true, true, false, true, true},
		"fibonacci": {true, true, false, true, true, true, true, true, true, true},
	} {
		w := namedWord(t, name, impl.MaxWord)
		for i, p := range []string{"AA", "AAA", "AAAA", "ABA", "ABAB", "ABBA", "AABB", "ABABA", "AABA", "BCCB"} {
			got, code := impl.HasPattern(w, p)
			wantAnswer(t, fmt.Sprintf("HasPattern(%q, %q)", w, p), got, code, has[i], impl.ErrNone)
		}
	}
}

func TestFirstPlace(t *testing.T) {
	sixty := strings.Repeat("a", 60)
	triple := namedWord(t, "triple", 60)
	cases := []struct {
		w, p   string
		place  int64
		values []string
	}{
		{"cabab", "AA", 1, []string{"ab"}},
		// Patterns of one variable, whichever it is.
		{"a", "A", 0, []string{"a"}},
		{"edcba", "B", 0, []string{"e"}},
		{longWord(60), "C", 0, []string{"a"}},
		{"cabab", "CC", 1, []string{"ab"}},
		{"cabab", "BB", 1, []string{"ab"}},
		{"eedcbaaaa", "AAA", 5, []string{"a"}},
		{"cbaaabaaabb", "BBB", 2, []string{"a"}},
		{"abcabcabcaaa", "AAA", 0, []string{"abc"}},
		{"abababababababab", "AAAAAAAA", 0, []string{"ab"}},
		{"babababababababab", "CCCCCCCC", 0, []string{"ba"}},
		{"bbababababababababa", "CCCCCCCC", 1, []string{"ba"}},
		// A place that is less comes first, also with a longer factor.
		{"abcabcaa", "AA", 0, []string{"abc"}},
		{"eabcabcaa", "AA", 1, []string{"abc"}},
		{"dabcdebabcdaa", "ABA", 0, []string{"d", "abc"}},
		// The shortest factor at a place, also if a longer one has a list that is less.
		{"aabaab", "AA", 0, []string{"a"}},
		{"abaababaab", "AA", 0, []string{"aba"}},
		{"abccbcc", "ABB", 0, []string{"ab", "c"}},
		{"abccbcc", "ACC", 0, []string{"ab", "c"}},
		{"abaaba", "ABA", 0, []string{"a", "b"}},
		// Of its values the list that is least, A before B and B before C, wherever they stand in the pattern.
		{"abcabc", "ABAB", 0, []string{"a", "bc"}},
		{"abcabc", "BABA", 0, []string{"c", "ab"}},
		{"abcabc", "BCBC", 0, []string{"a", "bc"}},
		{"abcabc", "CBCB", 0, []string{"c", "ab"}},
		{"abcabc", "ACAC", 0, []string{"a", "bc"}},
		{"abcabc", "CACA", 0, []string{"c", "ab"}},
		{"abcdabcd", "ABCABC", 0, []string{"a", "b", "cd"}},
		{"abcdabcd", "CBACBA", 0, []string{"d", "c", "ab"}},
		{"abcdabcd", "BCABCA", 0, []string{"d", "a", "bc"}},
		{"abcdabcd", "CABCAB", 0, []string{"c", "d", "ab"}},
		{"abcdabcd", "BACBAC", 0, []string{"b", "a", "cd"}},
		{"abcdabcd", "ACBACB", 0, []string{"a", "d", "bc"}},
		{"eabcdeabcdb", "ABAB", 0, []string{"e", "abcd"}},
		{"baabaab", "AABAAB", 1, []string{"a", "b"}},
		// Values stand in the order of the variables, not of the pattern, and just for those that are in it.
		{"abaab", "ABA", 0, []string{"a", "b"}},
		{"abaab", "CBC", 0, []string{"b", "a"}},
		{"abaab", "BAAB", 1, []string{"a", "b"}},
		{"abaab", "AB", 0, []string{"a", "b"}},
		{"abaab", "BA", 0, []string{"b", "a"}},
		{"abaab", "CA", 0, []string{"b", "a"}},
		{"abaab", "CB", 0, []string{"b", "a"}},
		{"abaab", "BC", 0, []string{"a", "b"}},
		{"abaab", "ABCA", 0, []string{"a", "b", "a"}},
		{"abcde", "ABC", 0, []string{"a", "b", "c"}},
		{"abcde", "CBA", 0, []string{"c", "b", "a"}},
		{"edcba", "BAC", 0, []string{"d", "e", "c"}},
		{"abacaba", "ABACABA", 0, []string{"a", "b", "c"}},
		{"abacaba", "CACBCAC", 0, []string{"b", "c", "a"}},
		{"aabbcc", "CCBBAA", 0, []string{"c", "b", "a"}},
		{"abcacbabc", "ACA", 0, []string{"a", "bc"}},
		{"aaaaaaaa", "ABACABA", 0, []string{"a", "a", "a"}},
		{"aaaaaaaa", "ABCABCAB", 0, []string{"a", "a", "a"}},
		// Words of the most letters, with the pattern at the beginning, at the end, and as the whole.
		{sixty, "A", 0, []string{"a"}},
		{sixty, "AAAAAAAA", 0, []string{"a"}},
		{longWord(60), "AAAAAAAA", 0, []string{"abcde"}},
		{longWord(60), "ABCABCAB", 0, []string{"a", "b", "cde"}},
		{longWord(60), "CCBBAA", 0, []string{"abcde", "abcde", "abcde"}},
		{triple[:58] + "ee", "AA", 58, []string{"e"}},
		{triple[:56] + "dede", "AA", 56, []string{"de"}},
		{triple[:56] + "dede", "BABA", 56, []string{"e", "d"}},
		{triple[:30] + triple[:30], "AA", 0, []string{triple[:30]}},
		{triple[:29] + "d" + triple[:29] + "d", "ABAB", 0, []string{"a", triple[1:29] + "d"}},
		{"e" + strings.Repeat("d", 58) + "e", "ABBA", 0, []string{"e", strings.Repeat("d", 29)}},
		{"e" + strings.Repeat("d", 57) + "e", "ABBA", 1, []string{"d", "d"}},
	}
	for _, c := range cases {
		wantFirst(t, c.w, c.p, c.place, c.values, impl.ErrNone)
	}
}

// Words that avoid a pattern have no place of it: those that are shorter, too, and words of the most letters.
func TestFirstPlaceNotFound(t *testing.T) {
	for _, c := range []struct{ w, p string }{
		{"", "A"}, {"", "ABC"}, {"", "CCCCCCCC"}, {"a", "AA"}, {"a", "BC"}, {"ab", "ABC"}, {"abc", "AA"}, {"aba", "AA"}, {"aabb", "ABA"},
		{"abcde", "CBC"}, {"aabbccddee", "ABA"}, {"eddcdcabb", "AABB"}, {"abcabca", "ABCABCAB"}, {"aaaaaaa", "BBBBBBBB"},
		{namedWord(t, "triple", 60), "AA"}, {namedWord(t, "triple", 60), "ABCC"}, {namedWord(t, "thue", 60), "AAA"},
		{namedWord(t, "thue", 60), "BABAB"}, {namedWord(t, "fibonacci", 60), "AAAA"},
	} {
		wantFirst(t, c.w, c.p, 0, nil, impl.ErrNotFound)
		has, code := impl.HasPattern(c.w, c.p)
		wantAnswer(t, fmt.Sprintf("HasPattern(%q, %q)", c.w, c.p), has, code, false, impl.ErrNone)
	}
}

// asDefinedIn tests the functions with a word and a pattern against the definitions.
func asDefinedIn(t *testing.T, w string, p string) {
	t.Helper()
	of := fmt.Sprintf("(%q, %q)", w, p)
	place, values, is := firstAsDefined(w, p)
	has, code := impl.HasPattern(w, p)
	wantAnswer(t, "HasPattern"+of, has, code, is, impl.ErrNone)
	fits, code := impl.FitsPattern(w, p)
	wantAnswer(t, "FitsPattern"+of, fits, code, fitsAsDefined(w, p), impl.ErrNone)
	if is {
		wantFirst(t, w, p, place, values, impl.ErrNone)
	} else {
		wantFirst(t, w, p, 0, nil, impl.ErrNotFound)
	}
}

func TestPatternsAsDefined(t *testing.T) {
	for _, w := range patternWords() {
		for _, p := range append(allPatterns(4), longPatterns...) {
			asDefinedIn(t, w, p)
		}
	}
}

// Words up to the most letters, with patterns of two variables, for which all values can be tried.
func TestPatternsOfLongWordsAsDefined(t *testing.T) {
	var words []string
	for _, name := range []string{"fibonacci", "thue", "doubling", "triple"} {
		for _, n := range []int64{20, 37, 60} {
			words = append(words, namedWord(t, name, n))
		}
	}
	words = append(words, longWord(60), longWord(31)+longWord(29), strings.Repeat("a", 60), strings.Repeat("aab", 20), strings.Repeat("abbcc", 12))
	for _, w := range words {
		for _, p := range []string{"A", "BB", "CCC", "CA", "ABA", "BBA", "BCC", "ABAB", "CBBC", "BBAA", "ACAAC", "BABAB", "AAAAA", "CCACCA", "BBBBBBBB"} {
			asDefinedIn(t, w, p)
		}
	}
}

// Other variables in the same roles change neither the place nor the factor there.
func TestVariablesRenamed(t *testing.T) {
	for _, p := range append(allPatterns(3), longPatterns...) {
		for _, names := range []string{"ACB", "BAC", "BCA", "CAB", "CBA"} {
			other := strings.Map(func(variable rune) rune { return rune(names[variable-'A']) }, p)
			for _, w := range allWords(5, 2) {
				place, values, code := impl.FirstPlace(w, p)
				otherPlace, otherValues, otherCode := impl.FirstPlace(w, other)
				if place != otherPlace || code != otherCode || code == impl.ErrNone && made(p, values) != made(other, otherValues) {
					t.Errorf("FirstPlace of %q is %d, %q, %d for %q, and %d, %q, %d for %q", w, place, values, code, p, otherPlace, otherValues, otherCode, other)
				}
			}
		}
	}
}

// Numbers outside are ErrRange, also for a pattern that all words avoid, or none with letters.
func TestNumbersOfAvoidingOutside(t *testing.T) {
	for _, p := range []string{"A", "AA", "AB", "ABC", "CBC", "AAA", "ABCABCAB", "AAAAAAAA"} {
		for _, k := range []int64{0, 4, 5, 6, -1, -2, 100, math.MaxInt64, math.MinInt64} {
			for _, n := range []int64{0, 1, 9, 12, 13, -1, math.MaxInt64, math.MinInt64} {
				avoidedIsRefused(t, p, k, n, impl.ErrRange)
			}
		}
		longestIsRefused(t, p, 3, impl.ErrRange)
		for k := int64(1); k <= 3; k++ {
			for _, n := range []int64{-1, -2, 13, 14, 60, 61, math.MaxInt64, math.MinInt64} {
				countIsRefused(t, p, k, n, impl.ErrRange)
				firstIsRefused(t, p, k, n, impl.ErrRange)
			}
			for n := int64(10); n <= 12; n++ {
				countIsRefused(t, p, k, n, impl.ErrRange)
			}
		}
	}
}

func TestCountAvoiding(t *testing.T) {
	cases := []struct {
		p      string
		k      int64
		counts [10]int64
	}{
		{"A", 1, [10]int64{1}},
		{"B", 2, [10]int64{1}},
		{"C", 3, [10]int64{1}},
		{"AA", 1, [10]int64{1, 1}},
		{"AA", 2, [10]int64{1, 2, 2, 2}},
		{"AA", 3, [10]int64{1, 3, 6, 12, 18, 30, 42, 60, 78, 108}},
		{"CC", 3, [10]int64{1, 3, 6, 12, 18, 30, 42, 60, 78, 108}},
		{"AB", 2, [10]int64{1, 2}},
		{"BA", 3, [10]int64{1, 3}},
		{"ABC", 1, [10]int64{1, 1, 1}},
		{"ABC", 2, [10]int64{1, 2, 4}},
		{"CAB", 3, [10]int64{1, 3, 9}},
		{"ABA", 2, [10]int64{1, 2, 4, 4, 2}},
		{"CBC", 3, [10]int64{1, 3, 9, 18, 24, 18, 6}},
		{"AAA", 1, [10]int64{1, 1, 1}},
		{"AAA", 2, [10]int64{1, 2, 4, 6, 10, 16, 24, 36, 56, 80}},
		{"AAA", 3, [10]int64{1, 3, 9, 24, 66, 180, 486, 1314, 3558, 9606}},
		{"AAB", 2, [10]int64{1, 2, 4, 4, 4}},
		{"AAB", 3, [10]int64{1, 3, 9, 18, 36, 54, 90, 126, 180, 234}},
		{"ABAB", 1, [10]int64{1, 1, 1, 1}},
		{"ABAB", 2, [10]int64{1, 2, 4, 8, 12, 20, 26, 38, 42, 52}},
		{"ABAB", 3, [10]int64{1, 3, 9, 27, 72, 198, 516, 1368, 3546, 9252}},
		{"ABBA", 2, [10]int64{1, 2, 4, 8, 12, 18, 18, 14, 8, 6}},
		{"BBCC", 2, [10]int64{1, 2, 4, 8, 12, 18, 22, 28, 22, 18}},
		{"ABAC", 3, [10]int64{1, 3, 9, 27, 54, 72, 54, 18}},
		{"ACBCA", 2, [10]int64{1, 2, 4, 8, 16, 24, 26, 20, 12, 4}},
		{"ACBCA", 3, [10]int64{1, 3, 9, 27, 81, 216, 510, 1050, 1902, 3012}},
		{"ABCABC", 3, [10]int64{1, 3, 9, 27, 81, 243, 702, 2052, 5916, 17118}},
		{"ABACABA", 3, [10]int64{1, 3, 9, 27, 81, 243, 729, 2160, 6342, 18456}},
		{"AAAAAAAA", 1, [10]int64{1, 1, 1, 1, 1, 1, 1, 1}},
		{"AAAAAAAA", 2, [10]int64{1, 2, 4, 8, 16, 32, 64, 128, 254, 506}},
		{"AAAAAAAA", 3, [10]int64{1, 3, 9, 27, 81, 243, 729, 2187, 6558, 19668}},
		{"ABCABCAB", 3, [10]int64{1, 3, 9, 27, 81, 243, 729, 2187, 6534, 19548}},
	}
	for _, c := range cases {
		for n, want := range c.counts {
			got, code := impl.CountAvoiding(c.p, c.k, int64(n))
			wantNumber(t, fmt.Sprintf("CountAvoiding(%q, %d, %d)", c.p, c.k, n), got, code, want, impl.ErrNone)
		}
	}
}

func TestFirstAvoiding(t *testing.T) {
	cases := []struct {
		p    string
		k, n int64
		want string
		code int64
	}{
		{"AA", 3, 6, "abacab", impl.ErrNone},
		// The empty word avoids all patterns.
		{"A", 1, 0, "", impl.ErrNone},
		{"C", 3, 0, "", impl.ErrNone},
		{"AA", 1, 0, "", impl.ErrNone},
		{"ABCABCAB", 3, 0, "", impl.ErrNone},
		{"A", 1, 1, anError, impl.ErrNotFound},
		{"B", 3, 1, anError, impl.ErrNotFound},
		{"C", 3, 12, anError, impl.ErrNotFound},
		{"AA", 1, 1, "a", impl.ErrNone},
		{"AA", 1, 2, anError, impl.ErrNotFound},
		{"AA", 2, 3, "aba", impl.ErrNone},
		{"AA", 2, 4, anError, impl.ErrNotFound},
		{"BB", 2, 12, anError, impl.ErrNotFound},
		{"CC", 3, 12, "abacabcacbab", impl.ErrNone},
		{"AB", 3, 1, "a", impl.ErrNone},
		{"AB", 3, 2, anError, impl.ErrNotFound},
		{"ABC", 3, 2, "aa", impl.ErrNone},
		{"ABC", 3, 3, anError, impl.ErrNotFound},
		{"ABA", 2, 4, "aabb", impl.ErrNone},
		{"ABA", 2, 5, anError, impl.ErrNotFound},
		{"ABA", 3, 5, "aabbc", impl.ErrNone},
		{"BAB", 3, 6, "aabbcc", impl.ErrNone},
		{"CBC", 3, 7, anError, impl.ErrNotFound},
		{"AAA", 1, 2, "aa", impl.ErrNone},
		{"AAA", 1, 3, anError, impl.ErrNotFound},
		{"AAA", 2, 12, "aabaababaaba", impl.ErrNone},
		{"AAA", 3, 12, "aabaabaacaab", impl.ErrNone},
		{"AAB", 2, 4, "abaa", impl.ErrNone},
		{"AAB", 2, 5, anError, impl.ErrNotFound},
		{"AAB", 3, 12, "abacabcacbaa", impl.ErrNone},
		{"BAA", 3, 12, "aabacabcacba", impl.ErrNone},
		{"ABAB", 2, 11, "aaabbaaabaa", impl.ErrNone},
		{"ABAB", 2, 12, "aaabbbaaabaa", impl.ErrNone},
		{"ABBA", 2, 8, "aaababbb", impl.ErrNone},
		{"ABBA", 2, 10, "aabbbaaabb", impl.ErrNone},
		{"CBBC", 2, 11, anError, impl.ErrNotFound},
		{"AABB", 2, 11, "abaaabaaaba", impl.ErrNone},
		{"AABB", 2, 12, anError, impl.ErrNotFound},
		{"AABB", 3, 12, "aaabaaabacaa", impl.ErrNone},
		{"ABAC", 3, 6, "aabbca", impl.ErrNone},
		{"ABABA", 2, 12, "aaaabaaaabba", impl.ErrNone},
		{"ABCABC", 2, 12, "aaaaababaaaa", impl.ErrNone},
		{"ABCACB", 2, 12, "aaaaabaabbaa", impl.ErrNone},
		{"ABACABA", 3, 12, "aaaaaabaabaa", impl.ErrNone},
		{"AAAAAAAA", 1, 7, "aaaaaaa", impl.ErrNone},
		{"AAAAAAAA", 1, 8, anError, impl.ErrNotFound},
		{"AAAAAAAA", 2, 8, "aaaaaaab", impl.ErrNone},
		{"CCCCCCCC", 3, 12, "aaaaaaabaaaa", impl.ErrNone},
		{"ABCABCAB", 1, 12, anError, impl.ErrNotFound},
		{"ABCABCAB", 3, 12, "aaaaaaabaaaa", impl.ErrNone},
	}
	for _, c := range cases {
		got, code := impl.FirstAvoiding(c.p, c.k, c.n)
		wantWord(t, fmt.Sprintf("FirstAvoiding(%q, %d, %d)", c.p, c.k, c.n), got, code, c.want, c.code)
	}
}

func TestAvoidingAsDefined(t *testing.T) {
	most := []int{8, 8, 5}
	for _, p := range append(allPatterns(3), "AABB", "ABBA", "BABA", "CBBA", "ACAC", "BBBB", "ABCBA", "AABAAB", "BCACB", "CCCCCCCC", "ABACABA") {
		for i, longest := range most {
			for n := range longest + 1 {
				avoiders := avoidersAsDefined(p, i+1, n)
				of := fmt.Sprintf("(%q, %d, %d)", p, i+1, n)
				count, code := impl.CountAvoiding(p, int64(i+1), int64(n))
				wantNumber(t, "CountAvoiding"+of, count, code, int64(len(avoiders)), impl.ErrNone)
				first, code := impl.FirstAvoiding(p, int64(i+1), int64(n))
				if len(avoiders) == 0 {
					wantWord(t, "FirstAvoiding"+of, first, code, anError, impl.ErrNotFound)
				} else {
					wantWord(t, "FirstAvoiding"+of, first, code, avoiders[0], impl.ErrNone)
				}
			}
		}
	}
}

func TestLongestAvoiding(t *testing.T) {
	cases := []struct {
		p    string
		k    int64
		want int64
		code int64
	}{
		{"AA", 2, 3, impl.ErrNone},
		{"A", 1, 0, impl.ErrNone},
		{"C", 2, 0, impl.ErrNone},
		{"AB", 1, 1, impl.ErrNone},
		{"CB", 2, 1, impl.ErrNone},
		{"ABC", 2, 2, impl.ErrNone},
		{"CC", 2, 3, impl.ErrNone},
		{"BAB", 2, 4, impl.ErrNone},
		{"AAB", 2, 4, impl.ErrNone},
		{"ABAC", 2, 5, impl.ErrNone},
		{"ABCA", 2, 6, impl.ErrNone},
		{"AABCB", 2, 8, impl.ErrNone},
		{"AABA", 2, 9, impl.ErrNone},
		// Words of 10 letters, but none of 11.
		{"ABBA", 2, 10, impl.ErrNone},
		{"BCCB", 2, 10, impl.ErrNone},
		{"ABCBA", 2, 10, impl.ErrNone},
		// Words of 11 letters, but none of 12.
		{"AABB", 2, 0, impl.ErrNotFound},
		{"CCAA", 2, 0, impl.ErrNotFound},
		{"ABCAA", 2, 0, impl.ErrNotFound},
		{"AAA", 2, 0, impl.ErrNotFound},
		{"ABAB", 2, 0, impl.ErrNotFound},
		{"ABACABA", 2, 0, impl.ErrNotFound},
		{"AAAAAAAA", 2, 0, impl.ErrNotFound},
		{"ABCABCAB", 2, 0, impl.ErrNotFound},
		{"AA", 1, 1, impl.ErrNone},
		{"ABACABA", 1, 6, impl.ErrNone},
		{"ABCABCAB", 1, 7, impl.ErrNone},
		{"BBBBBBBB", 1, 7, impl.ErrNone},
	}
	for _, c := range cases {
		got, code := impl.LongestAvoiding(c.p, c.k)
		wantNumber(t, fmt.Sprintf("LongestAvoiding(%q, %d)", c.p, c.k), got, code, c.want, c.code)
	}
}

func TestLongestAvoidingAsDefined(t *testing.T) {
	for _, p := range append(allPatterns(4), longPatterns...) {
		for k := 1; k <= 2; k++ {
			call := fmt.Sprintf("LongestAvoiding(%q, %d)", p, k)
			got, code := impl.LongestAvoiding(p, int64(k))
			if want := longestAsDefined("", p, k); want == 11 {
				wantNumber(t, call, got, code, 0, impl.ErrNotFound)
			} else {
				wantNumber(t, call, got, code, int64(want), impl.ErrNone)
			}
		}
		// Words of one letter have all patterns that are not longer, and no others.
		longest, code := impl.LongestAvoiding(p, 1)
		wantNumber(t, fmt.Sprintf("LongestAvoiding(%q, 1)", p), longest, code, int64(len(p)-1), impl.ErrNone)
	}
}

// The longest words are those of which there are some, and none with one letter more.
func TestLongestAvoidingIsTheLastCounted(t *testing.T) {
	for _, p := range append(allPatterns(4), longPatterns...) {
		for k := int64(1); k <= 2; k++ {
			longest, code := impl.LongestAvoiding(p, k)
			for n := int64(0); n <= 9; n++ {
				count, countCode := impl.CountAvoiding(p, k, n)
				if some := code == impl.ErrNotFound || n <= longest; countCode != impl.ErrNone || count > 0 != some {
					t.Errorf("LongestAvoiding(%q, %d) = %d, %d, but there are %d words of %d letters", p, k, longest, code, count, n)
				}
			}
			_, eleven := impl.FirstAvoiding(p, k, 11)
			if (eleven == impl.ErrNone) != (code == impl.ErrNotFound) {
				t.Errorf("LongestAvoiding(%q, %d): code %d, but code %d of FirstAvoiding for 11 letters", p, k, code, eleven)
			}
		}
	}
}

func TestZiminWord(t *testing.T) {
	words := []string{"a", "aba", "abacaba", "abacabadabacaba", "abacabadabacabaeabacabadabacaba"}
	for i, want := range words {
		got, code := impl.ZiminWord(int64(i + 1))
		wantWord(t, fmt.Sprintf("ZiminWord(%d)", i+1), got, code, want, impl.ErrNone)
	}
	for _, n := range []int64{0, 6, 7, 26, 60, -1, -5, math.MaxInt64, math.MinInt64} {
		got, code := impl.ZiminWord(n)
		wantWord(t, fmt.Sprintf("ZiminWord(%d)", n), got, code, anError, impl.ErrRange)
	}
}

func TestIsUnavoidable(t *testing.T) {
	for p, want := range map[string]bool{
		"ABA": true, "AA": false,
		"A": true, "B": true, "C": true, "AB": true, "BA": true, "CA": true, "BC": true, "CB": true, "BB": false, "CC": false,
		"BAB": true, "BCB": true, "CAC": true, "CBC": true, "AAB": false, "ABB": false, "CCB": false, "AAA": false, "ABAB": false, "ABBC": false,
		"ABC": true, "CBA": true, "ABAC": true, "ABCA": true, "BACA": true, "AABC": false, "ABCC": false,
		"ABACA": true, "ABCBA": true, "ABCAC": true, "ABCABC": false, "ABACBA": true, "ABACAB": true, "ABCBAB": true, "ABCABA": true,
		"ABACBC": false, "ABCACB": false, "ABACABA": true, "CBCACBC": true, "CACBCAC": true, "ABCBABC": false, "BACABAC": false, "CABACAB": false,
		"AAAAAAAA": false, "ABACABAC": false, "ABACABAB": false, "ABCABCAB": false,
	} {
		got, code := impl.IsUnavoidable(p)
		wantAnswer(t, fmt.Sprintf("IsUnavoidable(%q)", p), got, code, want, impl.ErrNone)
	}
}

// joined returns a name for each variable as the first one of two neighbours ("A<") and as the second one ("A>"). Neighbours of the
// pattern make their two names the same, so that names are the same if neighbours lead from one to the other.
func joined(p string) map[string]string {
	names := map[string]string{}
	for _, variable := range "ABC" {
		for _, side := range "<>" {
			names[string(variable)+string(side)] = string(variable) + string(side)
		}
	}
	for i := 1; i < len(p); i++ {
		from, to := names[p[i-1:i]+"<"], names[p[i:i+1]+">"]
		for variable, name := range names {
			if name == from {
				names[variable] = to
			}
		}
	}
	return names
}

// isFree reports whether no variable of a set, as a first neighbour, is joined with one of the set as a second neighbour.
func isFree(set string, names map[string]string) bool {
	for _, x := range set {
		for _, y := range set {
			if names[string(x)+"<"] == names[string(y)+">"] {
				return false
			}
		}
	}
	return true
}

// isReducible reports whether a pattern becomes empty if free sets of variables are taken away from it, one after the other. By a
// theorem of Bean, Ehrenfeucht, McNulty and Zimin these are the unavoidable patterns.
func isReducible(p string) bool {
	if p == "" {
		return true
	}
	for _, set := range []string{"A", "B", "C", "AB", "AC", "BC", "ABC"} {
		if !strings.ContainsAny(p, set) || !isFree(set, joined(p)) {
			continue
		}
		rest := strings.Map(func(variable rune) rune {
			if strings.ContainsRune(set, variable) {
				return -1
			}
			return variable
		}, p)
		if isReducible(rest) {
			return true
		}
	}
	return false
}

func TestIsUnavoidableAsReducible(t *testing.T) {
	counts := make([]int, impl.MaxPattern+1)
	for _, p := range allPatterns(impl.MaxPattern) {
		got, code := impl.IsUnavoidable(p)
		wantAnswer(t, fmt.Sprintf("IsUnavoidable(%q)", p), got, code, isReducible(p), impl.ErrNone)
		if got {
			counts[len(p)]++
		}
	}
	if want := []int{0, 3, 6, 12, 18, 30, 24, 6, 0}; !slices.Equal(counts, want) {
		t.Errorf("%v patterns of 0 to 8 bytes are unavoidable, not %v", counts, want)
	}
}

// Unavoidable patterns of few bytes are in all words that are not short.
func TestUnavoidablePatternsAreInLongWords(t *testing.T) {
	for _, p := range allPatterns(4) {
		unavoidable, _ := impl.IsUnavoidable(p)
		if !unavoidable {
			continue
		}
		for k := int64(1); k <= impl.MaxWide; k++ {
			for n := int64(10); n <= 12; n++ {
				firstIsRefused(t, p, k, n, impl.ErrNotFound)
			}
		}
		for _, w := range mixedWords() {
			if len(w) > 20 {
				has, code := impl.HasPattern(w, p)
				wantAnswer(t, fmt.Sprintf("HasPattern(%q, %q)", w, p), has, code, true, impl.ErrNone)
			}
		}
	}
}

// Promise 10: values make the factor at the first place.
func TestPromiseValuesMakeTheFactor(t *testing.T) {
	found := 0
	words := append(patternWords(), longWord(60), strings.Repeat("aab", 20), namedWord(t, "thue", 60), namedWord(t, "triple", 45))
	for _, w := range words {
		for _, p := range append(allPatterns(3), longPatterns...) {
			place, values, code := impl.FirstPlace(w, p)
			if code != impl.ErrNone {
				continue
			}
			found++
			if int64(len(values)) != differentVariables(p) || slices.Contains(values, "") {
				t.Fatalf("FirstPlace(%q, %q): the values are %q", w, p, values)
			}
			word := made(p, values)
			factor, code := impl.FactorAt(w, place, int64(len(word)))
			wantWord(t, fmt.Sprintf("FactorAt(%q, %d, %d)", w, place, len(word)), factor, code, word, impl.ErrNone)
			fits, code := impl.FitsPattern(factor, p)
			wantAnswer(t, fmt.Sprintf("FitsPattern(%q, %q)", factor, p), fits, code, true, impl.ErrNone)
			for _, value := range values {
				if !impl.IsWord(value) {
					t.Errorf("FirstPlace(%q, %q): %q is no word", w, p, value)
				}
			}
		}
	}
	if found < 1000 {
		t.Errorf("just %d places were found", found)
	}
}

// Promise 10: first words avoid patterns. They have the letters and the length that are told.
func TestPromiseFirstWordsAvoidPatterns(t *testing.T) {
	for _, p := range append(allPatterns(3), longPatterns...) {
		for k := int64(1); k <= impl.MaxWide; k++ {
			for n := int64(0); n <= 12; n++ {
				w, code := impl.FirstAvoiding(p, k, n)
				if code != impl.ErrNone {
					continue
				}
				if int64(len(w)) != n || strings.Trim(w, "abc"[:k]) != "" {
					t.Errorf("FirstAvoiding(%q, %d, %d) = %q", p, k, n, w)
				}
				has, code := impl.HasPattern(w, p)
				wantAnswer(t, fmt.Sprintf("HasPattern(%q, %q)", w, p), has, code, false, impl.ErrNone)
			}
		}
	}
}

// Promise 14: words have the pattern AA just if they are not square free. The first place is that of the first of all powers, too.
func TestPromisePatternsOfSquares(t *testing.T) {
	words := slices.Concat(allWords(9, 2), allWords(6, 3), allWords(4, 5), mixedWords())
	for n := int64(10); n <= impl.MaxWord; n++ {
		triple := namedWord(t, "triple", n)
		words = append(words, triple, triple[1:]+"d", triple[:n-2]+"dd", triple[:n-1]+triple[:1])
	}
	free := 0
	for _, w := range words {
		isFree, code := impl.IsSquareFree(w)
		if code != impl.ErrNone {
			t.Fatalf("IsSquareFree(%q): code %d", w, code)
		}
		if isFree {
			free++
		}
		for _, p := range []string{"AA", "BB", "CC"} {
			has, code := impl.HasPattern(w, p)
			wantAnswer(t, fmt.Sprintf("HasPattern(%q, %q)", w, p), has, code, !isFree, impl.ErrNone)
		}
		isFirstPower(t, w, "AA", 2)
		isFirstPower(t, w, "BBB", 3)
	}
	if free < 300 || free > len(words)-300 {
		t.Errorf("%d of %d words are square free", free, len(words))
	}
}

// isFirstPower tests that the first place of a pattern of one variable is that of the first power.
func isFirstPower(t *testing.T, w string, p string, k int64) {
	t.Helper()
	powers, code := impl.PowersIn(w, k)
	if code != impl.ErrNone {
		t.Fatalf("PowersIn(%q, %d): code %d", w, k, code)
	}
	if len(powers) == 0 {
		wantFirst(t, w, p, 0, nil, impl.ErrNotFound)
		return
	}
	place, length := powers[0][0], powers[0][1]
	wantFirst(t, w, p, place, []string{w[place : place+length]}, impl.ErrNone)
}

// Words that avoid AA are the square free ones, which chapter 3 counts and finds in its own way.
func TestAvoidingSquares(t *testing.T) {
	for k := int64(1); k <= impl.MaxWide; k++ {
		for n := int64(0); n <= 12; n++ {
			want, wantCode := impl.FirstSquareFree(n, k)
			first, code := impl.FirstAvoiding("AA", k, n)
			wantWord(t, fmt.Sprintf(`FirstAvoiding("AA", %d, %d)`, k, n), first, code, want, wantCode)
			if n > 9 {
				continue
			}
			wantCount, _ := impl.CountSquareFree(n, k)
			count, code := impl.CountAvoiding("AA", k, n)
			wantNumber(t, fmt.Sprintf(`CountAvoiding("AA", %d, %d)`, k, n), count, code, wantCount, impl.ErrNone)
		}
	}
}

// The guarantee: longer words have the patterns of their factors.
func TestGuaranteeLongerWordsHavePatterns(t *testing.T) {
	for _, w := range append(allWords(6, 2), "abcabc", "abacaba", "abccbcc", "aababb", "edcbaed") {
		for _, p := range append(allPatterns(3), "ABBA", "AABB", "ABAC", "CBBA", "ABABA", "ABACABA") {
			has, _ := impl.HasPattern(w, p)
			if !has {
				continue
			}
			place, _, _ := impl.FirstPlace(w, p)
			for _, letter := range "abcde" {
				for _, longer := range []string{w + string(letter), string(letter) + w} {
					still, code := impl.HasPattern(longer, p)
					wantAnswer(t, fmt.Sprintf("HasPattern(%q, %q)", longer, p), still, code, true, impl.ErrNone)
				}
				// What is put behind a word leaves the first place where it is.
				later, _, code := impl.FirstPlace(w+string(letter), p)
				if later > place || code != impl.ErrNone {
					t.Errorf("FirstPlace(%q, %q) = %d, %d, not at most %d", w+string(letter), p, later, code, place)
				}
			}
		}
	}
}

// The guarantee: unavoidable patterns are in Zimin words. They are in those of more variables, too, and others are not in that of theirs.
func TestGuaranteeUnavoidablePatternsInZiminWords(t *testing.T) {
	for _, p := range append(allPatterns(7), longPatterns...) {
		unavoidable, code := impl.IsUnavoidable(p)
		if code != impl.ErrNone {
			t.Fatalf("IsUnavoidable(%q): code %d", p, code)
		}
		for n := differentVariables(p); n <= impl.MaxLetters; n++ {
			zimin, _ := impl.ZiminWord(n)
			has, code := impl.HasPattern(zimin, p)
			if n > differentVariables(p) && !unavoidable {
				break
			}
			wantAnswer(t, fmt.Sprintf("HasPattern(%q, %q)", zimin, p), has, code, unavoidable, impl.ErrNone)
		}
	}
}

func TestResultsOfPatternsAreNew(t *testing.T) {
	resultsAreNew(t, "FirstPlace", func() ([]string, int64) {
		_, values, code := impl.FirstPlace("eabcabd", "ABCAB")
		return values, code
	}, "x")
}

// A search that found a fit, one that found none, and one that was refused leave nothing behind for the next call.
func TestPatternsOneAfterTheOther(t *testing.T) {
	for range 3 {
		wantFirst(t, "cabab", "AA", 1, []string{"ab"}, impl.ErrNone)
		wantFirst(t, "cab", "AA", 0, nil, impl.ErrNotFound)
		wantFirst(t, "cabab", "", 0, nil, impl.ErrInvalid)
		wantFirst(t, "abacaba", "ABACABA", 0, []string{"a", "b", "c"}, impl.ErrNone)
		countIsRefused(t, "AA", 0, 3, impl.ErrRange)
		longest, code := impl.LongestAvoiding("AA", 2)
		wantNumber(t, "LongestAvoiding", longest, code, 3, impl.ErrNone)
	}
}
