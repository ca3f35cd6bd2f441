package tests

import (
	"fmt"
	"math"
	"slices"
	"strings"
	"sync"
	"testing"

	"loop.example/g01371/impl"
)

// wrongPowers are numbers of factors that are out of range for abelian powers.
var wrongPowers = []int64{1, 0, -1, -2, impl.MaxWord + 1, 1000, math.MinInt64, math.MaxInt64}

// A vector tells how often each letter stands in a word.
type vector [5]int64

// countedVector returns the vector of a word, without the program's help.
func countedVector(w string) vector {
	var counts vector
	for number, letter := range "abcde" {
		counts[number] = int64(strings.Count(w, string(letter)))
	}
	return counts
}

// equalVectors reports whether all words of a list have the same vector.
func equalVectors(words []string) bool {
	for _, w := range words {
		if countedVector(w) != countedVector(words[0]) {
			return false
		}
	}
	return true
}

// cutWord returns the factors of w with m letters, one behind the other, as many as there is room for, and what is behind them.
func cutWord(w string, m int) ([]string, string) {
	var parts []string
	for len(w) >= m {
		parts = append(parts, w[:m])
		w = w[m:]
	}
	return parts, w
}

// wordsByVector returns all words of at most n letters, by their vectors, those of a vector in order.
func wordsByVector(n int) map[vector][]string {
	words := map[vector][]string{}
	for _, w := range allWords(n, 5) {
		counts := countedVector(w)
		words[counts] = append(words[counts], w)
	}
	return words
}

// letterWords are words of several lengths, with letters that stand in them evenly and unevenly.
func letterWords() []string {
	return append(factorWords(), "aabb", "aaabbb", "abbaab", "abcbcacab", "abcdeedcba", "abbabaab", "ad", "bc", "ccaac", "eaaee",
		strings.Repeat("a", 30)+strings.Repeat("b", 30), strings.Repeat("a", 59)+"e", strings.Repeat("abba", 15), strings.Repeat("aabbc", 12))
}

// shortLetterWords are words for tests that look through everything.
func shortLetterWords() []string {
	return append(allWords(7, 2), append(allWords(5, 3), allWords(3, 5)...)...)
}

// powersAreRefused tests that the functions with a word and a number of factors return zero values and a code.
func powersAreRefused(t *testing.T, w string, k int64, want int64) {
	t.Helper()
	of := fmt.Sprintf("(%q, %d)", w, k)
	list, code := impl.AbelianPowers(w, k)
	wantPairs(t, "AbelianPowers"+of, list, code, nil, want)
	free, code := impl.IsAbelianFree(w, k)
	wantAnswer(t, "IsAbelianFree"+of, free, code, false, want)
}

// Each function refuses each string that is not a word, whichever argument it is, before it looks at anything else.
func TestWordsByTheirLettersAreAsked(t *testing.T) {
	for _, w := range notWords {
		of := fmt.Sprintf("(%q)", w)
		for _, u := range append([]string{"", "a", "abc", longWord(60), w}, notWords...) {
			yes, code := impl.AreAlike(w, u)
			wantAnswer(t, fmt.Sprintf("AreAlike(%q, %q)", w, u), yes, code, false, impl.ErrInvalid)
			yes, code = impl.AreAlike(u, w)
			wantAnswer(t, fmt.Sprintf("AreAlike(%q, %q)", u, w), yes, code, false, impl.ErrInvalid)
		}
		word, code := impl.SortedWord(w)
		wantWord(t, "SortedWord"+of, word, code, anError, impl.ErrInvalid)
		n, code := impl.CountAlike(w)
		wantNumber(t, "CountAlike"+of, n, code, 0, impl.ErrInvalid)
		list, code := impl.AbelianSquares(w)
		wantPairs(t, "AbelianSquares"+of, list, code, nil, impl.ErrInvalid)
		list, code = impl.AbelianPeriods(w)
		wantPairs(t, "AbelianPeriods"+of, list, code, nil, impl.ErrInvalid)
		counts, code := impl.AbelianComplexity(w)
		wantList(t, "AbelianComplexity"+of, counts, code, nil, impl.ErrInvalid)
		n, code = impl.BalanceOf(w)
		wantNumber(t, "BalanceOf"+of, n, code, 0, impl.ErrInvalid)
		yes, code := impl.IsBalancedWord(w)
		wantAnswer(t, "IsBalancedWord"+of, yes, code, false, impl.ErrInvalid)
		for _, k := range append([]int64{2, 3, 60}, wrongPowers...) {
			powersAreRefused(t, w, k, impl.ErrInvalid)
		}
		for _, m := range append([]int64{0, 1, 60}, wrongLengths...) {
			sums, code := impl.SumsOf(w, m)
			wantList(t, fmt.Sprintf("SumsOf(%q, %d)", w, m), sums, code, nil, impl.ErrInvalid)
		}
	}
}

// Numbers out of range are refused whatever the word is; the first and the last ones inside are accepted, also if no factor is so long.
func TestNumbersByLettersOutside(t *testing.T) {
	for _, w := range []string{"", "a", "aa", "abaab", longWord(60), strings.Repeat("a", 60)} {
		for _, k := range wrongPowers {
			powersAreRefused(t, w, k, impl.ErrRange)
		}
		for k := int64(2); k <= impl.MaxWord; k++ {
			if _, code := impl.AbelianPowers(w, k); code != impl.ErrNone {
				t.Errorf("AbelianPowers(%q, %d): code %d", w, k, code)
			}
			if _, code := impl.IsAbelianFree(w, k); code != impl.ErrNone {
				t.Errorf("IsAbelianFree(%q, %d): code %d", w, k, code)
			}
		}
		for _, m := range wrongLengths {
			sums, code := impl.SumsOf(w, m)
			wantList(t, fmt.Sprintf("SumsOf(%q, %d)", w, m), sums, code, nil, impl.ErrRange)
		}
		for m := int64(0); m <= impl.MaxWord; m++ {
			if _, code := impl.SumsOf(w, m); code != impl.ErrNone {
				t.Errorf("SumsOf(%q, %d): code %d", w, m, code)
			}
		}
	}
}

func TestAreAlike(t *testing.T) {
	cases := []struct {
		w, u string
		want bool
	}{
		{"abca", "caab", true},
		{"", "", true},
		{"", "a", false},
		{"a", "a", true},
		{"a", "b", false},
		{"aab", "abb", false},
		{"aab", "aabb", false},
		{"aabb", "abab", true},
		{"abcde", "edcba", true},
		{"abcd", "abce", false},
		// Words of the same length and the same sum need not be alike.
		{"ad", "bc", false},
		{"ace", "bbe", false},
		{"e", "eeee", false},
		{longWord(60), strings.Repeat("edcba", 12), true},
		{strings.Repeat("a", 60), strings.Repeat("a", 59), false},
		{strings.Repeat("a", 59) + "e", "e" + strings.Repeat("a", 59), true},
		{strings.Repeat("a", 59) + "e", strings.Repeat("a", 59) + "d", false},
	}
	for _, c := range cases {
		got, code := impl.AreAlike(c.w, c.u)
		wantAnswer(t, fmt.Sprintf("AreAlike(%q, %q)", c.w, c.u), got, code, c.want, impl.ErrNone)
		got, code = impl.AreAlike(c.u, c.w)
		wantAnswer(t, fmt.Sprintf("AreAlike(%q, %q)", c.u, c.w), got, code, c.want, impl.ErrNone)
	}
}

func TestAreAlikeAsDefined(t *testing.T) {
	words := append(allWords(4, 3), letterWords()...)
	for _, w := range words {
		for _, u := range words {
			got, code := impl.AreAlike(w, u)
			wantAnswer(t, fmt.Sprintf("AreAlike(%q, %q)", w, u), got, code, countedVector(w) == countedVector(u), impl.ErrNone)
		}
	}
}

func TestSortedWord(t *testing.T) {
	cases := map[string]string{
		"cabac":                       "aabcc",
		"":                            "",
		"a":                           "a",
		"e":                           "e",
		"ba":                          "ab",
		"edcba":                       "abcde",
		"aabcc":                       "aabcc",
		"bbb":                         "bbb",
		"eaeae":                       "aaeee",
		strings.Repeat("e", 59) + "a": "a" + strings.Repeat("e", 59),
		strings.Repeat("ba", 30):      strings.Repeat("a", 30) + strings.Repeat("b", 30),
		longWord(60): strings.Repeat("a", 12) + strings.Repeat("b", 12) + strings.Repeat("c", 12) + strings.Repeat("d", 12) +
			strings.Repeat("e", 12),
	}
	for w, want := range cases {
		got, code := impl.SortedWord(w)
		wantWord(t, fmt.Sprintf("SortedWord(%q)", w), got, code, want, impl.ErrNone)
	}
}

// Of all words that are alike, each one has the first one as its sorted word.
func TestSortedWordAsDefined(t *testing.T) {
	for _, words := range wordsByVector(5) {
		for _, w := range words {
			got, code := impl.SortedWord(w)
			wantWord(t, fmt.Sprintf("SortedWord(%q)", w), got, code, words[0], impl.ErrNone)
		}
	}
}

// Promise 7: sorted words are alike with the words, and so have the same sorted word.
func TestPromiseSortedWordsAreAlike(t *testing.T) {
	for _, w := range append(shortLetterWords(), letterWords()...) {
		sorted, code := impl.SortedWord(w)
		if code != impl.ErrNone || sorted > w {
			t.Errorf("SortedWord(%q) = %q, %d", w, sorted, code)
		}
		alike, code := impl.AreAlike(w, sorted)
		wantAnswer(t, fmt.Sprintf("AreAlike(%q, %q)", w, sorted), alike, code, true, impl.ErrNone)
		again, code := impl.SortedWord(sorted)
		wantWord(t, fmt.Sprintf("SortedWord(%q)", sorted), again, code, sorted, impl.ErrNone)
	}
}

func TestCountAlike(t *testing.T) {
	cases := []struct {
		w    string
		want int64
		code int64
	}{
		{"abca", 12, impl.ErrNone},
		{"", 1, impl.ErrNone},
		{"a", 1, impl.ErrNone},
		{"e", 1, impl.ErrNone},
		{"ab", 2, impl.ErrNone},
		{"aab", 3, impl.ErrNone},
		{"bab", 3, impl.ErrNone},
		{"abcde", 120, impl.ErrNone},
		{"aaaaaaaaaaaa", 1, impl.ErrNone},
		{"eeeeeeeeeeee", 1, impl.ErrNone},
		{"aaaaaaaaaaab", 12, impl.ErrNone},
		{"aaaaaabbbbbb", 924, impl.ErrNone},
		{"abcdabcdabcd", 369600, impl.ErrNone},
		{"abcdeabcdeab", 1663200, impl.ErrNone},
		{"edcbaedcbaed", 1663200, impl.ErrNone},
		{"aaaaaaaaaaaaa", 0, impl.ErrLimit},
		{"eeeeeeeeeeeee", 0, impl.ErrLimit},
		{longWord(13), 0, impl.ErrLimit},
		{longWord(60), 0, impl.ErrLimit},
		{strings.Repeat("b", 60), 0, impl.ErrLimit},
	}
	for _, c := range cases {
		got, code := impl.CountAlike(c.w)
		wantNumber(t, fmt.Sprintf("CountAlike(%q)", c.w), got, code, c.want, c.code)
	}
}

func TestCountAlikeAsDefined(t *testing.T) {
	for _, words := range wordsByVector(6) {
		for _, w := range words {
			got, code := impl.CountAlike(w)
			wantNumber(t, fmt.Sprintf("CountAlike(%q)", w), got, code, int64(len(words)), impl.ErrNone)
		}
	}
}

func TestWordsWith(t *testing.T) {
	cases := []struct {
		vector []int64
		want   []string
	}{
		{[]int64{2, 1, 0, 0, 0}, []string{"aab", "aba", "baa"}},
		{[]int64{0, 0, 0, 0, 0}, []string{""}},
		{[]int64{1, 0, 0, 0, 0}, []string{"a"}},
		{[]int64{0, 0, 0, 0, 1}, []string{"e"}},
		{[]int64{8, 0, 0, 0, 0}, []string{"aaaaaaaa"}},
		{[]int64{0, 0, 0, 0, 8}, []string{"eeeeeeee"}},
		{[]int64{0, 1, 0, 1, 0}, []string{"bd", "db"}},
		{[]int64{1, 0, 1, 0, 1}, []string{"ace", "aec", "cae", "cea", "eac", "eca"}},
		{[]int64{2, 0, 0, 2, 0}, []string{"aadd", "adad", "adda", "daad", "dada", "ddaa"}},
		{[]int64{0, 0, 7, 1, 0}, []string{"cccccccd", "ccccccdc", "cccccdcc", "ccccdccc", "cccdcccc", "ccdccccc", "cdcccccc", "dccccccc"}},
	}
	for _, c := range cases {
		got, code := impl.WordsWith(c.vector)
		wantList(t, fmt.Sprintf("WordsWith(%v)", c.vector), got, code, c.want, impl.ErrNone)
	}
}

// Lists that are no vectors, or too great ones, are refused, also if there were few words, or too many of them.
func TestVectorsOutside(t *testing.T) {
	lists := [][]int64{nil, {}, {1}, {1, 1}, {8}, {2, 1, 0, 0}, {0, 0, 0, 0}, {2, 1, 0, 0, 0, 0}, {0, 0, 0, 0, 0, 0}, {2, 2, 2, 2}, {2, 2, 2, 2, 0, 0},
		{9, 0, 0, 0, 0}, {0, 0, 0, 0, 9}, {8, 1, 0, 0, 0}, {1, 0, 0, 0, 8}, {4, 0, 5, 0, 0}, {2, 2, 2, 2, 1}, {9, 9, 9, 9, 9}, {-1, 0, 0, 0, 0},
		{0, 0, 0, 0, -1}, {-1, 9, 0, 0, 0}, {9, -1, 0, 0, 0}, {3, -1, 0, 0, 0}, {8, 8, -8, 0, 0}, {2, 2, 2, 2, -1}, {1, 1, 1, 1, 5},
		{math.MaxInt64, 0, 0, 0, 0}, {math.MinInt64, 0, 0, 0, 0}, {0, 0, 0, 0, math.MaxInt64}, {math.MaxInt64, math.MaxInt64, 0, 0, 0},
		{math.MaxInt64, math.MaxInt64, 2, 0, 0}, {math.MinInt64, math.MinInt64, 0, 0, 0}, {math.MaxInt64, math.MinInt64, 1, 0, 0},
		{math.MinInt64, math.MaxInt64, 8, 0, 0}, make([]int64, 60), make([]int64, 100000)}
	for _, list := range lists {
		got, code := impl.WordsWith(list)
		wantList(t, fmt.Sprintf("WordsWith(%.60s)", fmt.Sprint(list)), got, code, nil, impl.ErrRange)
	}
}

// Promise 7: words are counted by their vectors. Just the vectors with more than 300 words are refused, as those are too many.
func TestPromiseWordsAreCountedByTheirVectors(t *testing.T) {
	most, refused := 0, 0
	for counts, words := range wordsByVector(8) {
		call := fmt.Sprintf("WordsWith(%v)", counts)
		number, code := impl.CountAlike(words[0])
		wantNumber(t, fmt.Sprintf("CountAlike(%q)", words[0]), number, code, int64(len(words)), impl.ErrNone)
		list, code := impl.CountLetters(words[0])
		wantList(t, fmt.Sprintf("CountLetters(%q)", words[0]), list, code, counts[:], impl.ErrNone)
		got, code := impl.WordsWith(list)
		if len(words) > 300 {
			wantList(t, call, got, code, nil, impl.ErrLimit)
			refused++
			continue
		}
		wantList(t, call, got, code, words, impl.ErrNone)
		most = max(most, len(got))
	}
	// No vector has between 280 and 336 words.
	if most != 280 || refused == 0 {
		t.Errorf("at most %d words were listed, and %d vectors were refused", most, refused)
	}
}

func TestWordsWithLimits(t *testing.T) {
	for _, counts := range [][]int64{{4, 3, 1, 0, 0}, {0, 1, 0, 3, 4}} {
		got, code := impl.WordsWith(counts)
		if len(got) != 280 || code != impl.ErrNone || !slices.IsSorted(got) {
			t.Errorf("WordsWith(%v) has %d words, code %d", counts, len(got), code)
		}
	}
	for _, counts := range [][]int64{{5, 1, 1, 1, 0}, {1, 1, 5, 0, 1}, {2, 1, 1, 1, 1}, {4, 2, 2, 0, 0}, {2, 2, 2, 2, 0}, {2, 2, 2, 1, 1}} {
		got, code := impl.WordsWith(counts)
		wantList(t, fmt.Sprintf("WordsWith(%v)", counts), got, code, nil, impl.ErrLimit)
	}
}

func TestAbelianSquares(t *testing.T) {
	cases := []struct {
		w    string
		want [][]int64
	}{
		{"abba", [][]int64{{0, 2}, {1, 1}}},
		{"", nil},
		{"a", nil},
		{"ab", nil},
		{"aa", [][]int64{{0, 1}}},
		{"aaa", [][]int64{{0, 1}, {1, 1}}},
		{"aaaa", [][]int64{{0, 1}, {0, 2}, {1, 1}, {2, 1}}},
		{"abab", [][]int64{{0, 2}}},
		{"abcbca", [][]int64{{0, 3}, {1, 2}}},
		{"abacaba", nil},
		{"adbc", nil},
		{"abcdeedcba", [][]int64{{0, 5}, {1, 4}, {2, 3}, {3, 2}, {4, 1}}},
	}
	for _, c := range cases {
		got, code := impl.AbelianSquares(c.w)
		wantPairs(t, fmt.Sprintf("AbelianSquares(%q)", c.w), got, code, c.want, impl.ErrNone)
	}
}

func TestAbelianPowers(t *testing.T) {
	long := strings.Repeat("a", 60)
	cases := []struct {
		w    string
		k    int64
		want [][]int64
	}{
		{"abbaab", 3, [][]int64{{0, 2}}},
		{"abbaab", 2, [][]int64{{0, 2}, {1, 1}, {2, 2}, {3, 1}}},
		{"abbabaab", 4, [][]int64{{0, 2}}},
		{"abcbcacab", 3, [][]int64{{0, 3}}},
		{"abcbacbb", 3, nil},
		{"aaa", 3, [][]int64{{0, 1}}},
		// There are more factors than there is room for.
		{"aaa", 4, nil},
		{"aaa", 60, nil},
		{"", 2, nil},
		{"", 60, nil},
		{"a", 2, nil},
		{"a", 60, nil},
		{long, 60, [][]int64{{0, 1}}},
		{long[:59], 60, nil},
		{long, 59, [][]int64{{0, 1}, {1, 1}}},
		{long[:59] + "b", 60, nil},
		{long[:59] + "b", 59, [][]int64{{0, 1}}},
		{"b" + long[:59], 59, [][]int64{{1, 1}}},
		{strings.Repeat("ab", 30), 30, [][]int64{{0, 2}}},
		{strings.Repeat("abba", 15), 30, [][]int64{{0, 2}}},
		{longWord(60), 12, [][]int64{{0, 5}}},
		{longWord(60), 13, nil},
		{strings.Repeat("ab", 30), 29, [][]int64{{0, 2}, {1, 2}, {2, 2}}},
	}
	for _, c := range cases {
		got, code := impl.AbelianPowers(c.w, c.k)
		wantPairs(t, fmt.Sprintf("AbelianPowers(%q, %d)", c.w, c.k), got, code, c.want, impl.ErrNone)
		free, code := impl.IsAbelianFree(c.w, c.k)
		wantAnswer(t, fmt.Sprintf("IsAbelianFree(%q, %d)", c.w, c.k), free, code, len(c.want) == 0, impl.ErrNone)
	}
}

// abelianPowersAsDefined returns the place and the length of each abelian power of k in w.
func abelianPowersAsDefined(w string, k int) [][]int64 {
	var list [][]int64
	for i := range w {
		for m := 1; i+k*m <= len(w); m++ {
			if parts, _ := cutWord(w[i:i+k*m], m); equalVectors(parts) {
				list = append(list, []int64{int64(i), int64(m)})
			}
		}
	}
	return list
}

func TestAbelianPowersAsDefined(t *testing.T) {
	for _, w := range append(shortLetterWords(), letterWords()...) {
		for _, k := range []int{2, 3, 4, 5, 6, 7, 10, 15, 20, 30, 60} {
			want := abelianPowersAsDefined(w, k)
			of := fmt.Sprintf("(%q, %d)", w, k)
			got, code := impl.AbelianPowers(w, int64(k))
			wantPairs(t, "AbelianPowers"+of, got, code, want, impl.ErrNone)
			free, code := impl.IsAbelianFree(w, int64(k))
			wantAnswer(t, "IsAbelianFree"+of, free, code, len(want) == 0, impl.ErrNone)
		}
		got, code := impl.AbelianSquares(w)
		wantPairs(t, fmt.Sprintf("AbelianSquares(%q)", w), got, code, abelianPowersAsDefined(w, 2), impl.ErrNone)
	}
}

// The guarantee: abelian powers have equal vectors, as the program counts letters.
func TestGuaranteeAbelianPowersHaveEqualVectors(t *testing.T) {
	for _, w := range append(shortLetterWords(), letterWords()...) {
		for k := int64(2); k <= 5; k++ {
			powers, code := impl.AbelianPowers(w, k)
			if code != impl.ErrNone {
				t.Errorf("AbelianPowers(%q, %d): code %d", w, k, code)
			}
			for _, power := range powers {
				first, _ := impl.FactorAt(w, power[0], power[1])
				want, _ := impl.CountLetters(first)
				for number := range k {
					factor, code := impl.FactorAt(w, power[0]+number*power[1], power[1])
					if code != impl.ErrNone {
						t.Fatalf("AbelianPowers(%q, %d) has %v: no room for it", w, k, power)
					}
					got, code := impl.CountLetters(factor)
					wantList(t, fmt.Sprintf("the power %v of %q: CountLetters(%q)", power, w, factor), got, code, want, impl.ErrNone)
				}
			}
		}
	}
}

// Powers as chapter 3 has them are abelian powers.
func TestPowersAreAbelianPowers(t *testing.T) {
	for _, w := range append(shortLetterWords(), letterWords()...) {
		for k := int64(2); k <= 4; k++ {
			powers, _ := impl.PowersIn(w, k)
			abelian, _ := impl.AbelianPowers(w, k)
			for _, power := range powers {
				if !slices.ContainsFunc(abelian, func(other []int64) bool { return slices.Equal(other, power) }) {
					t.Errorf("AbelianPowers(%q, %d) = %v, without %v", w, k, abelian, power)
				}
			}
		}
	}
}

func TestAbelianPeriods(t *testing.T) {
	cases := []struct {
		w    string
		want [][]int64
	}{
		{"aba", [][]int64{{0, 2}, {1, 2}, {0, 3}}},
		{"", nil},
		{"a", [][]int64{{0, 1}}},
		{"e", [][]int64{{0, 1}}},
		{"aa", [][]int64{{0, 1}, {0, 2}}},
		{"ab", [][]int64{{0, 2}}},
		{"aaa", [][]int64{{0, 1}, {0, 2}, {1, 2}, {0, 3}}},
		{"aab", [][]int64{{1, 2}, {0, 3}}},
		{"abb", [][]int64{{0, 2}, {0, 3}}},
		{"abc", [][]int64{{0, 3}}},
		{"abba", [][]int64{{0, 2}, {0, 3}, {1, 3}, {0, 4}}},
		{"abcd", [][]int64{{0, 4}}},
		{"abca", [][]int64{{0, 3}, {1, 3}, {0, 4}}},
		// A head may have a letter as often as the factors have it, but not more often: aa is a head for aab, and a is none for bb.
		{"aaaab", [][]int64{{2, 3}, {1, 4}, {0, 5}}},
		{"abbbb", [][]int64{{0, 3}, {0, 4}, {0, 5}}},
		{"bbaab", [][]int64{{1, 2}, {0, 3}, {1, 3}, {0, 4}, {1, 4}, {0, 5}}},
		{"abaab", [][]int64{{1, 2}, {0, 3}, {1, 3}, {2, 3}, {0, 4}, {1, 4}, {0, 5}}},
	}
	for _, c := range cases {
		got, code := impl.AbelianPeriods(c.w)
		wantPairs(t, fmt.Sprintf("AbelianPeriods(%q)", c.w), got, code, c.want, impl.ErrNone)
	}
}

// isInside reports whether each letter stands in w at most as often as in u.
func isInside(w string, u string) bool {
	x, y := countedVector(w), countedVector(u)
	for number := range x {
		if x[number] > y[number] {
			return false
		}
	}
	return true
}

// abelianPeriodsAsDefined returns the head and the period of each abelian period of w, by the period, then by the head.
func abelianPeriodsAsDefined(w string) [][]int64 {
	var list [][]int64
	for m := 1; m <= len(w); m++ {
		for h := 0; h < m && h <= len(w); h++ {
			parts, tail := cutWord(w[h:], m)
			if len(parts) > 0 && equalVectors(parts) && isInside(w[:h], parts[0]) && isInside(tail, parts[0]) {
				list = append(list, []int64{int64(h), int64(m)})
			}
		}
	}
	return list
}

func TestAbelianPeriodsAsDefined(t *testing.T) {
	for _, w := range append(allWords(9, 2), append(shortLetterWords(), letterWords()...)...) {
		got, code := impl.AbelianPeriods(w)
		wantPairs(t, fmt.Sprintf("AbelianPeriods(%q)", w), got, code, abelianPeriodsAsDefined(w), impl.ErrNone)
	}
}

// Promise 16: periods are abelian periods, with the head 0.
func TestPromisePeriodsAreAbelianPeriods(t *testing.T) {
	for _, w := range append(allWords(9, 2), append(shortLetterWords(), letterWords()...)...) {
		periods, code := impl.PeriodsOf(w)
		if code != impl.ErrNone {
			t.Errorf("PeriodsOf(%q): code %d", w, code)
		}
		abelian, code := impl.AbelianPeriods(w)
		if code != impl.ErrNone {
			t.Errorf("AbelianPeriods(%q): code %d", w, code)
		}
		for _, period := range periods {
			if !slices.ContainsFunc(abelian, func(other []int64) bool { return slices.Equal(other, []int64{0, period}) }) {
				t.Errorf("AbelianPeriods(%q) = %v, without the period %d", w, abelian, period)
			}
		}
	}
}

func TestAbelianComplexity(t *testing.T) {
	cases := map[string][]int64{
		"abaab":    {1, 2, 2, 1, 2, 1},
		"":         {1},
		"a":        {1, 1},
		"e":        {1, 1},
		"aa":       {1, 1, 1},
		"ab":       {1, 2, 1},
		"aaa":      {1, 1, 1, 1},
		"abc":      {1, 3, 2, 1},
		"aba":      {1, 2, 1, 1},
		"aabb":     {1, 2, 3, 2, 1},
		"abcde":    {1, 5, 4, 3, 2, 1},
		"adbc":     {1, 4, 3, 2, 1},
		"abcabc":   {1, 3, 3, 1, 3, 2, 1},
		"abbaabba": {1, 2, 3, 2, 1, 2, 2, 1, 1},
	}
	for w, want := range cases {
		got, code := impl.AbelianComplexity(w)
		wantList(t, fmt.Sprintf("AbelianComplexity(%q)", w), got, code, want, impl.ErrNone)
	}
}

// complexityAsDefined returns the numbers of the different vectors of factors, by the length of the factors.
func complexityAsDefined(w string) []int64 {
	var counts []int64
	for m := range len(w) + 1 {
		vectors := map[vector]bool{}
		for _, factor := range different(w, m) {
			vectors[countedVector(factor)] = true
		}
		counts = append(counts, int64(len(vectors)))
	}
	return counts
}

// balanceAsDefined returns the greatest difference of a letter in two factors of the same length.
func balanceAsDefined(w string) int64 {
	greatest := int64(0)
	for m := range len(w) + 1 {
		for _, x := range different(w, m) {
			for _, y := range different(w, m) {
				for _, letter := range "abcde" {
					difference := strings.Count(x, string(letter)) - strings.Count(y, string(letter))
					greatest = max(greatest, int64(difference))
				}
			}
		}
	}
	return greatest
}

func TestComplexityAndBalanceAsDefined(t *testing.T) {
	for _, w := range append(allWords(8, 2), append(shortLetterWords(), letterWords()...)...) {
		of := fmt.Sprintf("(%q)", w)
		counts, code := impl.AbelianComplexity(w)
		wantList(t, "AbelianComplexity"+of, counts, code, complexityAsDefined(w), impl.ErrNone)
		want := balanceAsDefined(w)
		balance, code := impl.BalanceOf(w)
		wantNumber(t, "BalanceOf"+of, balance, code, want, impl.ErrNone)
		balanced, code := impl.IsBalancedWord(w)
		wantAnswer(t, "IsBalancedWord"+of, balanced, code, want <= 1, impl.ErrNone)
	}
}

func TestBalanceOf(t *testing.T) {
	fibonacci, _ := impl.NamedWord("fibonacci", 60)
	thue, _ := impl.NamedWord("thue", 60)
	cases := []struct {
		w    string
		want int64
	}{
		{"aabb", 2},
		{"", 0},
		{"a", 0},
		{"e", 0},
		{"aaaa", 0},
		{strings.Repeat("e", 60), 0},
		{"ab", 1},
		{"abba", 1},
		{"abcde", 1},
		{"abcabc", 1},
		{"aaabbb", 3},
		{"aabab", 1},
		{"ababb", 1},
		{"aababb", 2},
		{"aabbab", 2},
		// A letter beside a and b may be the one that is uneven.
		{"ccdabcde", 2},
		{"deadeeadd", 2},
		{"abeeabdcab", 2},
		{fibonacci, 1},
		{fibonacci[:13], 1},
		{thue, 2},
		{longWord(60), 1},
		{strings.Repeat("a", 30) + strings.Repeat("b", 30), 30},
		{strings.Repeat("d", 20) + strings.Repeat("e", 20) + strings.Repeat("d", 20), 20},
		{strings.Repeat("a", 59) + "b", 1},
	}
	for _, c := range cases {
		got, code := impl.BalanceOf(c.w)
		wantNumber(t, fmt.Sprintf("BalanceOf(%q)", c.w), got, code, c.want, impl.ErrNone)
		balanced, code := impl.IsBalancedWord(c.w)
		wantAnswer(t, fmt.Sprintf("IsBalancedWord(%q)", c.w), balanced, code, c.want <= 1, impl.ErrNone)
	}
}

// The guarantee: balanced words of two letters have at most two vectors for each length. Just those have, among words of a and b.
func TestGuaranteeBalancedWordsHaveFewVectors(t *testing.T) {
	words := allWords(10, 2)
	for _, w := range letterWords() {
		if strings.Trim(w, "ab") == "" {
			words = append(words, w)
		}
	}
	count := 0
	for _, w := range words {
		counts, code := impl.AbelianComplexity(w)
		if code != impl.ErrNone {
			t.Errorf("AbelianComplexity(%q): code %d", w, code)
		}
		balanced, code := impl.IsBalancedWord(w)
		wantAnswer(t, fmt.Sprintf("IsBalancedWord(%q)", w), balanced, code, slices.Max(counts) <= 2, impl.ErrNone)
		if balanced {
			count++
		}
	}
	// There are 1, 2, 4, 8, 14, 24, 36, 54, 76, 104 and 136 of 0 to 10 letters, and some of the other words.
	if count < 459 {
		t.Errorf("only %d words are balanced", count)
	}
}

// Factors of one length need not be looked at one after the other: calls at the same time have the results of calls alone.
func TestLengthsLookedAtTogether(t *testing.T) {
	var calls sync.WaitGroup
	for _, w := range letterWords() {
		want, balance := complexityAsDefined(w), balanceAsDefined(w)
		for range 4 {
			calls.Go(func() {
				counts, code := impl.AbelianComplexity(w)
				wantList(t, fmt.Sprintf("AbelianComplexity(%q)", w), counts, code, want, impl.ErrNone)
				number, code := impl.BalanceOf(w)
				wantNumber(t, fmt.Sprintf("BalanceOf(%q)", w), number, code, balance, impl.ErrNone)
			})
		}
	}
	calls.Wait()
}

func TestSumsOf(t *testing.T) {
	cases := []struct {
		w    string
		m    int64
		want []int64
	}{
		{"abc", 2, []int64{1, 3}},
		{"abc", 0, []int64{0}},
		{"abc", 1, []int64{0, 1, 2}},
		{"abc", 3, []int64{3}},
		{"abc", 4, nil},
		{"abc", 60, nil},
		{"", 0, []int64{0}},
		{"", 1, nil},
		{"", 60, nil},
		{"a", 1, []int64{0}},
		{"e", 0, []int64{0}},
		{"e", 1, []int64{4}},
		{"e", 2, nil},
		{"edcba", 1, []int64{0, 1, 2, 3, 4}},
		{"edcba", 2, []int64{1, 3, 5, 7}},
		{"edcba", 5, []int64{10}},
		// Factors with other letters may have the same sum, which is told once.
		{"adbc", 2, []int64{3, 4}},
		{"bbac", 2, []int64{1, 2}},
		{"acbb", 2, []int64{2, 3}},
		{"eeaaee", 2, []int64{0, 4, 8}},
		{strings.Repeat("e", 60), 60, []int64{240}},
		{strings.Repeat("e", 60), 59, []int64{236}},
		{strings.Repeat("e", 59), 60, nil},
		{strings.Repeat("a", 60), 60, []int64{0}},
		{longWord(60), 60, []int64{120}},
		{longWord(60), 5, []int64{10}},
		{longWord(60), 0, []int64{0}},
	}
	for _, c := range cases {
		got, code := impl.SumsOf(c.w, c.m)
		wantList(t, fmt.Sprintf("SumsOf(%q, %d)", c.w, c.m), got, code, c.want, impl.ErrNone)
	}
}

func TestSumsOfAsDefined(t *testing.T) {
	for _, w := range append(shortLetterWords(), letterWords()...) {
		for m := 0; m <= len(w)+1 && m <= 60; m++ {
			found := map[int64]bool{}
			for _, factor := range different(w, m) {
				counts := countedVector(factor)
				found[counts[1]+2*counts[2]+3*counts[3]+4*counts[4]] = true
			}
			var want []int64
			for sum := range int64(241) {
				if found[sum] {
					want = append(want, sum)
				}
			}
			got, code := impl.SumsOf(w, int64(m))
			wantList(t, fmt.Sprintf("SumsOf(%q, %d)", w, m), got, code, want, impl.ErrNone)
		}
	}
}

func TestFirstAbelianFree(t *testing.T) {
	cases := []struct {
		m, j, k int64
		want    string
		code    int64
	}{
		{7, 3, 2, "abacaba", impl.ErrNone},
		{8, 3, 2, anError, impl.ErrNotFound},
		{16, 3, 2, anError, impl.ErrNotFound},
		{0, 1, 2, "", impl.ErrNone},
		{0, 4, 4, "", impl.ErrNone},
		{1, 1, 2, "a", impl.ErrNone},
		{2, 1, 2, anError, impl.ErrNotFound},
		{2, 1, 3, "aa", impl.ErrNone},
		{3, 1, 3, anError, impl.ErrNotFound},
		{3, 1, 4, "aaa", impl.ErrNone},
		{4, 1, 4, anError, impl.ErrNotFound},
		{16, 1, 4, anError, impl.ErrNotFound},
		{3, 2, 2, "aba", impl.ErrNone},
		{4, 2, 2, anError, impl.ErrNotFound},
		// The longest words without abelian powers may not begin as shorter ones do.
		{8, 2, 3, "aabaabaa", impl.ErrNone},
		{9, 2, 3, "aabbabbaa", impl.ErrNone},
		{10, 2, 3, anError, impl.ErrNotFound},
		{16, 2, 3, anError, impl.ErrNotFound},
		{16, 2, 4, "aaabaaabaaababba", impl.ErrNone},
		{16, 3, 3, "aabaabaacaabaaba", impl.ErrNone},
		{16, 3, 4, "aaabaaabaaabaaac", impl.ErrNone},
		{15, 4, 2, "abacabadabacaba", impl.ErrNone},
		{16, 4, 2, "abacabadabacbabd", impl.ErrNone},
		{16, 4, 3, "aabaabaacaabaaba", impl.ErrNone},
		{16, 4, 4, "aaabaaabaaabaaac", impl.ErrNone},
		{17, 4, 4, anError, impl.ErrRange},
		{17, 1, 2, anError, impl.ErrRange},
		{-1, 3, 2, anError, impl.ErrRange},
		{math.MaxInt64, 3, 2, anError, impl.ErrRange},
		{math.MinInt64, 3, 2, anError, impl.ErrRange},
		{8, 0, 2, anError, impl.ErrRange},
		{8, 5, 2, anError, impl.ErrRange},
		{0, 0, 2, anError, impl.ErrRange},
		{0, 5, 2, anError, impl.ErrRange},
		{8, -1, 2, anError, impl.ErrRange},
		{8, math.MaxInt64, 2, anError, impl.ErrRange},
		{8, math.MinInt64, 2, anError, impl.ErrRange},
		{8, 3, 1, anError, impl.ErrRange},
		{8, 3, 5, anError, impl.ErrRange},
		{0, 3, 1, anError, impl.ErrRange},
		{0, 3, 5, anError, impl.ErrRange},
		{8, 3, 0, anError, impl.ErrRange},
		{8, 3, -2, anError, impl.ErrRange},
		{8, 3, math.MaxInt64, anError, impl.ErrRange},
		{8, 3, math.MinInt64, anError, impl.ErrRange},
		{17, 5, 5, anError, impl.ErrRange},
	}
	for _, c := range cases {
		got, code := impl.FirstAbelianFree(c.m, c.j, c.k)
		wantWord(t, fmt.Sprintf("FirstAbelianFree(%d, %d, %d)", c.m, c.j, c.k), got, code, c.want, c.code)
	}
}

// Words without abelian powers have beginnings without them: all of a length come, in order, from those with one letter less.
func TestFirstAbelianFreeAsDefined(t *testing.T) {
	limits := map[int][3]int{1: {16, 16, 16}, 2: {16, 16, 12}, 3: {16, 9, 7}, 4: {10, 6, 6}}
	for j, limit := range limits {
		for k := 2; k <= 4; k++ {
			words := []string{""}
			for m := 0; m <= limit[k-2]; m++ {
				want, wantCode := anError, int64(impl.ErrNotFound)
				if len(words) > 0 {
					want, wantCode = words[0], impl.ErrNone
				}
				got, code := impl.FirstAbelianFree(int64(m), int64(j), int64(k))
				wantWord(t, fmt.Sprintf("FirstAbelianFree(%d, %d, %d)", m, j, k), got, code, want, wantCode)
				var longer []string
				for _, w := range words {
					for _, letter := range "abcd"[:j] {
						if next := w + string(letter); len(abelianPowersAsDefined(next, k)) == 0 {
							longer = append(longer, next)
						}
					}
				}
				words = longer
			}
		}
	}
}

// The first word has its length and its letters, and no abelian power; a longer one does not come before it.
func TestFirstAbelianFreeWordsAreFree(t *testing.T) {
	found := 0
	for j := int64(1); j <= 4; j++ {
		for k := int64(2); k <= 4; k++ {
			before := ""
			for m := int64(0); m <= 16; m++ {
				of := fmt.Sprintf("(%d, %d, %d)", m, j, k)
				w, code := impl.FirstAbelianFree(m, j, k)
				if code == impl.ErrNotFound {
					continue
				}
				if code != impl.ErrNone || int64(len(w)) != m || strings.Trim(w, "abcd"[:j]) != "" || w < before {
					t.Errorf("FirstAbelianFree%s = %q, %d, and a shorter one is %q", of, w, code, before)
				}
				free, code := impl.IsAbelianFree(w, k)
				wantAnswer(t, fmt.Sprintf("IsAbelianFree(%q, %d)", w, k), free, code, true, impl.ErrNone)
				before = w
				found++
			}
		}
	}
	if found < 100 {
		t.Errorf("only %d words were found", found)
	}
}

// WordsWith does not change its vector, or what is behind it.
func TestVectorsStayAsTheyAre(t *testing.T) {
	for _, counts := range [][]int64{{2, 1, 0, 0, 1}, {0, 0, 0, 0, 0}, {2, 2, 2, 2, 0}, {9, 0, 0, 0, 0}, {-1, 0, 0, 0, 0}} {
		whole := append(slices.Clone(counts), 77, 78)
		impl.WordsWith(whole[:5])
		if !slices.Equal(whole, append(counts, 77, 78)) {
			t.Errorf("WordsWith(%v): the list is %v now", counts, whole)
		}
	}
}

func TestResultsByLettersAreNew(t *testing.T) {
	counts := []int64{2, 1, 0, 0, 0}
	resultsAreNew(t, "WordsWith", func() ([]string, int64) { return impl.WordsWith(counts) }, "x")
	resultsAreNew(t, "WordsWith zeros", func() ([]string, int64) { return impl.WordsWith(make([]int64, 5)) }, "x")
	resultsAreNew(t, "AbelianComplexity", func() ([]int64, int64) { return impl.AbelianComplexity("abaab") }, 77)
	resultsAreNew(t, "SumsOf", func() ([]int64, int64) { return impl.SumsOf("abcde", 2) }, 77)
	lists := map[string]func() ([][]int64, int64){
		"AbelianSquares": func() ([][]int64, int64) { return impl.AbelianSquares("abbaab") },
		"AbelianPowers":  func() ([][]int64, int64) { return impl.AbelianPowers("aaaaaa", 3) },
		"AbelianPeriods": func() ([][]int64, int64) { return impl.AbelianPeriods("abaab") },
	}
	for call, list := range lists {
		pairsAreNew(t, call, list)
	}
}
