package tests

import (
	"fmt"
	"math"
	"slices"
	"strings"
	"sync"
	"testing"

	"loop.example/g01371/impl"
)

// Words of two numbers may have so many letters, and those of which a central word is a part two more.
const (
	mostOfSlope   = impl.MaxWord
	mostOfCentral = impl.MaxWord + 2
)

// otherLetters are words with a letter beside a and b.
var otherLetters = []string{"c", "d", "e", "ac", "ca", "abc", "aabac", "cabab", "aabeb", longWord(60), strings.Repeat("a", 59) + "c",
	"c" + strings.Repeat("b", 59), strings.Repeat("e", 60)}

// twoLettersTooLong are strings of a and b with one letter more than a word may have.
var twoLettersTooLong = []string{strings.Repeat("a", 61), strings.Repeat("b", 61), strings.Repeat("a", 60) + "b", "a" + strings.Repeat("b", 60),
	strings.Repeat("ab", 30) + "a"}

// A pair is two numbers of which words are made.
type pair struct {
	p, q int64
}

// haveDivisor reports whether two numbers have a common divisor greater than 1, as all numbers are divisors of 0.
func haveDivisor(p int64, q int64) bool {
	for d := int64(2); d <= max(p, q, 2); d++ {
		if p%d == 0 && q%d == 0 {
			return true
		}
	}
	return false
}

// pairsUpTo returns all pairs of numbers of at least the least one, without a common divisor, that are at most n together.
func pairsUpTo(n int64, least int64) []pair {
	var pairs []pair
	for p := least; p <= n; p++ {
		for q := least; p+q <= n; q++ {
			if !haveDivisor(p, q) {
				pairs = append(pairs, pair{p, q})
			}
		}
	}
	return pairs
}

// steppedAsDefined has b where a whole number times b is more than i a + c and at most (i + 1) a + c, a elsewhere.
func steppedAsDefined(a int64, b int64, c int64, n int64) string {
	word := ""
	for i := range n {
		letter := "a"
		for m := int64(0); m*b <= (i+1)*a+c; m++ {
			if m*b > i*a+c {
				letter = "b"
			}
		}
		word += letter
	}
	return word
}

// slopeAsDefined returns the word of two numbers.
func slopeAsDefined(p int64, q int64) string {
	word, n := "", p+q
	for i := range n {
		if (i+1)*q/n != i*q/n {
			word += "b"
		} else {
			word += "a"
		}
	}
	return word
}

// slopesAsDefined returns the words of two numbers with at most n letters, with these numbers.
func slopesAsDefined(n int64) map[string]pair {
	slopes := map[string]pair{}
	for _, numbers := range pairsUpTo(n, 0) {
		slopes[slopeAsDefined(numbers.p, numbers.q)] = numbers
	}
	return slopes
}

// standardAsDefined returns the last one of the words s(-1), s(0), .. of a list, or the first one behind s(0) with more than MaxWord
// letters, and the greatest number of letters of these words from s(1) on.
func standardAsDefined(list []int64) (string, int) {
	words := []string{"b", "a"}
	longest := 0
	for _, number := range list {
		k := len(words)
		words = append(words, strings.Repeat(words[k-1], int(number))+words[k-2])
		longest = max(longest, len(words[k]))
		if longest > impl.MaxWord {
			break
		}
	}
	return words[len(words)-1], longest
}

// standardLists returns all lists of numbers of which a word of at most n letters is the standard word, shorter ones first, those of
// the same length in their order.
func standardLists(n int) [][]int64 {
	lists := [][]int64{nil}
	for from := 0; from < len(lists); from++ {
		list := lists[from]
		for number := int64(min(len(list), 1)); ; number++ {
			longer := append(slices.Clone(list), number)
			if word, _ := standardAsDefined(longer); len(word) > n {
				break
			}
			lists = append(lists, longer)
		}
	}
	return lists
}

// balancedAsDefined returns the balanced words of n letters a and b, in order: in no two factors of the same length, the numbers of
// letters b differ by more than 1.
func balancedAsDefined(n int) []string {
	words := []string{""}
	for range n {
		var longer []string
		for _, w := range words {
			for _, letter := range []string{"a", "b"} {
				if lastIsEven(w + letter) {
					longer = append(longer, w+letter)
				}
			}
		}
		words = longer
	}
	return words
}

// lastIsEven reports whether no factor at the end of w has two letters b more, or less, than another factor of the same length.
func lastIsEven(w string) bool {
	for m := 1; m <= len(w); m++ {
		last := strings.Count(w[len(w)-m:], "b")
		for i := 0; i+m <= len(w); i++ {
			if difference := last - strings.Count(w[i:i+m], "b"); difference < -1 || difference > 1 {
				return false
			}
		}
	}
	return true
}

// slopesAreRefused tests that the functions with a word return zero values and a code.
func slopesAreRefused(t *testing.T, w string, want int64) {
	t.Helper()
	wantSlope(t, w, 0, 0, want)
	list, code := impl.ListOfStandard(w)
	wantList(t, fmt.Sprintf("ListOfStandard(%q)", w), list, code, nil, want)
	wantCut(t, w, anError, anError, want)
}

func wantSlope(t *testing.T, w string, p int64, q int64, want int64) {
	t.Helper()
	gotP, gotQ, code := impl.SlopeOfWord(w)
	if gotP != p || gotQ != q || code != want {
		t.Errorf("SlopeOfWord(%q) = %d, %d, %d, not %d, %d, %d", w, gotP, gotQ, code, p, q, want)
	}
}

func wantCut(t *testing.T, w string, left string, right string, want int64) {
	t.Helper()
	u, v, code := impl.CutOf(w)
	if u != left || v != right || code != want {
		t.Errorf("CutOf(%q) = %q, %q, %d, not %q, %q, %d", w, u, v, code, left, right, want)
	}
}

// numbersAreRefused tests that the functions with two numbers, of at least 1, return zero values and a code.
func numbersAreRefused(t *testing.T, p int64, q int64, want int64) {
	t.Helper()
	of := fmt.Sprintf("(%d, %d)", p, q)
	word, code := impl.CentralWord(p, q)
	wantWord(t, "CentralWord"+of, word, code, anError, want)
	word, code = impl.PathOf(p, q)
	wantWord(t, "PathOf"+of, word, code, anError, want)
}

func TestConstantOfSlopes(t *testing.T) {
	if impl.MaxBalanced != 10 {
		t.Errorf("MaxBalanced = %d", impl.MaxBalanced)
	}
}

// Each function with a word refuses each string that is not a word, or has a letter beside a and b.
func TestWordsOfSlopesAreAsked(t *testing.T) {
	for _, w := range slices.Concat(notWords, otherLetters, twoLettersTooLong) {
		slopesAreRefused(t, w, impl.ErrInvalid)
	}
}

// The empty word is the word of no numbers and no list: ErrState, not ErrInvalid.
func TestSlopesOfTheEmptyWord(t *testing.T) {
	slopesAreRefused(t, "", impl.ErrState)
}

func TestSlopesOfOneLetter(t *testing.T) {
	wantSlope(t, "a", 1, 0, impl.ErrNone)
	wantSlope(t, "b", 0, 1, impl.ErrNone)
	list, code := impl.ListOfStandard("a")
	wantList(t, `ListOfStandard("a")`, list, code, nil, impl.ErrNone)
	list, code = impl.ListOfStandard("b")
	wantList(t, `ListOfStandard("b")`, list, code, []int64{0}, impl.ErrNone)
	for _, w := range []string{"a", "b"} {
		wantCut(t, w, anError, anError, impl.ErrState)
	}
	for n := 2; n <= impl.MaxWord; n++ {
		slopesAreRefused(t, strings.Repeat("a", n), impl.ErrState)
		slopesAreRefused(t, strings.Repeat("b", n), impl.ErrState)
	}
}

// Numbers that are out of range, or both 0, or have a common divisor, are refused, also if the word would be too long.
func TestNumbersOfSlopesOutside(t *testing.T) {
	pairs := []pair{{0, 0}, {2, 2}, {2, 4}, {6, 9}, {30, 30}, {31, 31}, {2, 60}, {3, 60}, {500, 1000}, {1000, 1000}, {999, 999}, {998, 1000},
		{-1, 1}, {1, -1}, {-1, 0}, {0, -1}, {-1, -1}, {-2, 3}, {3, -2}, {1001, 1}, {1, 1001}, {1001, 1000}, {1000, 1001}, {1001, 1003},
		{1001, 0}, {0, 1001}, {math.MaxInt64, 1}, {1, math.MaxInt64}, {math.MinInt64, 1}, {1, math.MinInt64}, {math.MinInt64, math.MinInt64},
		{math.MaxInt64, math.MaxInt64 - 1}, {math.MaxInt64, math.MinInt64}, {math.MinInt64, math.MaxInt64}, {math.MaxInt64, 0}, {math.MinInt64, 0},
		{0, 2}, {2, 0}, {0, 60}, {60, 0}, {0, 1000}, {1000, 0}, {0, 61}, {61, 0}}
	for _, c := range pairs {
		word, code := impl.WordOfSlope(c.p, c.q)
		wantWord(t, fmt.Sprintf("WordOfSlope(%d, %d)", c.p, c.q), word, code, anError, impl.ErrRange)
		numbersAreRefused(t, c.p, c.q, impl.ErrRange)
	}
	// Just the word of two numbers may have one of 0.
	for _, c := range []pair{{0, 1}, {1, 0}} {
		numbersAreRefused(t, c.p, c.q, impl.ErrRange)
	}
}

func TestWordOfSlope(t *testing.T) {
	cases := []struct {
		p, q int64
		want string
		code int64
	}{
		{3, 2, "aabab", impl.ErrNone},
		{2, 3, "ababb", impl.ErrNone},
		{1, 0, "a", impl.ErrNone},
		{0, 1, "b", impl.ErrNone},
		{1, 1, "ab", impl.ErrNone},
		{2, 1, "aab", impl.ErrNone},
		{1, 2, "abb", impl.ErrNone},
		{5, 3, "aabaabab", impl.ErrNone},
		{4, 3, "aababab", impl.ErrNone},
		{4, 7, "ababbabbabb", impl.ErrNone},
		{59, 1, strings.Repeat("a", 59) + "b", impl.ErrNone},
		{1, 59, "a" + strings.Repeat("b", 59), impl.ErrNone},
		{60, 1, anError, impl.ErrLimit},
		{1, 60, anError, impl.ErrLimit},
		{31, 29, "aab" + strings.Repeat("ab", 13) + "aab" + strings.Repeat("ab", 14), impl.ErrNone},
		{31, 30, anError, impl.ErrLimit},
		{30, 31, anError, impl.ErrLimit},
		{1000, 1, anError, impl.ErrLimit},
		{1, 1000, anError, impl.ErrLimit},
		{1000, 999, anError, impl.ErrLimit},
		{999, 1000, anError, impl.ErrLimit},
	}
	for _, c := range cases {
		got, code := impl.WordOfSlope(c.p, c.q)
		wantWord(t, fmt.Sprintf("WordOfSlope(%d, %d)", c.p, c.q), got, code, c.want, c.code)
	}
}

func TestWordOfSlopeAsDefined(t *testing.T) {
	for p := int64(0); p <= mostOfSlope+5; p++ {
		for q := int64(0); q <= mostOfSlope+5; q++ {
			call := fmt.Sprintf("WordOfSlope(%d, %d)", p, q)
			got, code := impl.WordOfSlope(p, q)
			switch {
			case haveDivisor(p, q):
				wantWord(t, call, got, code, anError, impl.ErrRange)
			case p+q > mostOfSlope:
				wantWord(t, call, got, code, anError, impl.ErrLimit)
			default:
				wantWord(t, call, got, code, slopeAsDefined(p, q), impl.ErrNone)
			}
		}
	}
}

func TestSlopeOfWord(t *testing.T) {
	cases := []struct {
		w    string
		p, q int64
		code int64
	}{
		{"aabab", 3, 2, impl.ErrNone},
		{"ab", 1, 1, impl.ErrNone},
		{"aab", 2, 1, impl.ErrNone},
		{"abb", 1, 2, impl.ErrNone},
		{strings.Repeat("a", 59) + "b", 59, 1, impl.ErrNone},
		{"a" + strings.Repeat("b", 59), 1, 59, impl.ErrNone},
		{"aab" + strings.Repeat("ab", 13) + "aab" + strings.Repeat("ab", 14), 31, 29, impl.ErrNone},
		// Turned and reversed words, powers, and words that are not balanced have letters of numbers of which they are not the word.
		{"ba", 0, 0, impl.ErrState},
		{"abaab", 0, 0, impl.ErrState},
		{"babaa", 0, 0, impl.ErrState},
		{"aabb", 0, 0, impl.ErrState},
		{"abab", 0, 0, impl.ErrState},
		{"aaabb", 0, 0, impl.ErrState},
		{"aabaab", 0, 0, impl.ErrState},
		{strings.Repeat("ab", 30), 0, 0, impl.ErrState},
		{"b" + strings.Repeat("a", 59), 0, 0, impl.ErrState},
		{strings.Repeat("a", 58) + "ba", 0, 0, impl.ErrState},
	}
	for _, c := range cases {
		wantSlope(t, c.w, c.p, c.q, c.code)
	}
}

func TestSlopeOfWordAsDefined(t *testing.T) {
	slopes := slopesAsDefined(12)
	found := 0
	for _, w := range allWords(12, 2) {
		if numbers, is := slopes[w]; is {
			wantSlope(t, w, numbers.p, numbers.q, impl.ErrNone)
			found++
		} else {
			wantSlope(t, w, 0, 0, impl.ErrState)
		}
	}
	// Of 1 to 12 letters there are 2, 1, 2, 2, 4, 2, 6, 4, 6, 4, 10 and 4.
	if found != len(slopes) || found != 47 {
		t.Errorf("%d words of two numbers were found, of %d", found, len(slopes))
	}
}

// Promise 8: words of slopes are balanced and have their slopes. They are Lyndon words, too, and so powers of themselves alone.
func TestPromiseWordsOfSlopes(t *testing.T) {
	pairs := pairsUpTo(mostOfSlope, 0)
	for _, c := range pairs {
		w, code := impl.WordOfSlope(c.p, c.q)
		if code != impl.ErrNone {
			t.Fatalf("WordOfSlope(%d, %d): code %d", c.p, c.q, code)
		}
		counts, code := impl.CountLetters(w)
		wantList(t, fmt.Sprintf("CountLetters(%q)", w), counts, code, []int64{c.p, c.q, 0, 0, 0}, impl.ErrNone)
		balanced, code := impl.IsBalancedWord(w)
		wantAnswer(t, fmt.Sprintf("IsBalancedWord(%q)", w), balanced, code, true, impl.ErrNone)
		wantSlope(t, w, c.p, c.q, impl.ErrNone)
		lyndon, code := impl.IsLyndon(w)
		wantAnswer(t, fmt.Sprintf("IsLyndon(%q)", w), lyndon, code, true, impl.ErrNone)
		root, k, code := impl.RootOf(w)
		wantWordAndNumber(t, fmt.Sprintf("RootOf(%q)", w), root, k, code, w, 1, impl.ErrNone)
	}
	// As many as there are fractions with these letters, from 1 to 60.
	if len(pairs) != 1103 {
		t.Errorf("%d pairs of numbers", len(pairs))
	}
}

func TestStandardWord(t *testing.T) {
	cases := []struct {
		list []int64
		want string
		code int64
	}{
		{[]int64{1, 1, 1}, "abaab", impl.ErrNone},
		{nil, "a", impl.ErrNone},
		{[]int64{}, "a", impl.ErrNone},
		{[]int64{0}, "b", impl.ErrNone},
		{[]int64{1}, "ab", impl.ErrNone},
		{[]int64{2}, "aab", impl.ErrNone},
		{[]int64{1, 1}, "aba", impl.ErrNone},
		{[]int64{2, 1}, "aaba", impl.ErrNone},
		{[]int64{1, 2}, "ababa", impl.ErrNone},
		{[]int64{2, 3}, "aabaabaaba", impl.ErrNone},
		{[]int64{1, 2, 3}, "ababaababaababaab", impl.ErrNone},
		// A first number of 0 makes b the word s(1).
		{[]int64{0, 1}, "ba", impl.ErrNone},
		{[]int64{0, 2}, "bba", impl.ErrNone},
		{[]int64{0, 1, 1}, "bab", impl.ErrNone},
		{[]int64{0, 2, 1}, "bbab", impl.ErrNone},
		{[]int64{0, 1, 2, 1}, "bababba", impl.ErrNone},
		{[]int64{59}, strings.Repeat("a", 59) + "b", impl.ErrNone},
		{[]int64{60}, anError, impl.ErrLimit},
		{[]int64{0, 59}, strings.Repeat("b", 59) + "a", impl.ErrNone},
		{[]int64{0, 60}, anError, impl.ErrLimit},
		{[]int64{59, 1}, anError, impl.ErrLimit},
		{[]int64{58, 1}, strings.Repeat("a", 58) + "ba", impl.ErrNone},
		{[]int64{58, 1, 1}, anError, impl.ErrLimit},
		{[]int64{1, 29}, strings.Repeat("ab", 29) + "a", impl.ErrNone},
		{[]int64{1, 30}, anError, impl.ErrLimit},
		{[]int64{60, 60, 60}, anError, impl.ErrLimit},
		{[]int64{60, 1, 1}, anError, impl.ErrLimit},
	}
	for _, c := range cases {
		got, code := impl.StandardWord(c.list)
		wantWord(t, fmt.Sprintf("StandardWord(%v)", c.list), got, code, c.want, c.code)
	}
}

// Lists of ones make the words with the name fibonacci, as many letters as these have; the first number may put off the others by one.
func TestStandardWordsWithAName(t *testing.T) {
	ones := slices.Repeat([]int64{1}, 20)
	for k, length := range []int64{1, 2, 3, 5, 8, 13, 21, 34, 55} {
		want, _ := impl.NamedWord("fibonacci", length)
		got, code := impl.StandardWord(ones[:k])
		wantWord(t, fmt.Sprintf("StandardWord(%v)", ones[:k]), got, code, want, impl.ErrNone)
		renamed, _ := impl.RenameLetters(want, []int64{1, 0, 2, 3, 4})
		later := append([]int64{0}, ones[:k]...)
		got, code = impl.StandardWord(later)
		wantWord(t, fmt.Sprintf("StandardWord(%v)", later), got, code, renamed, impl.ErrNone)
	}
	for k := 9; k <= 20; k++ {
		got, code := impl.StandardWord(ones[:k])
		wantWord(t, fmt.Sprintf("StandardWord(%v)", ones[:k]), got, code, anError, impl.ErrLimit)
	}
	for k := 9; k <= 19; k++ {
		later := append([]int64{0}, ones[:k]...)
		got, code := impl.StandardWord(later)
		wantWord(t, fmt.Sprintf("StandardWord(%v)", later), got, code, anError, impl.ErrLimit)
	}
}

// Lists that are too long, or have a number out of range, are refused, also if a word before this number is too long.
func TestStandardListsOutside(t *testing.T) {
	ones := slices.Repeat([]int64{1}, 100000)
	lists := [][]int64{{-1}, {61}, {math.MaxInt64}, {math.MinInt64}, {1, 0}, {0, 0}, {1, -1}, {1, 61}, {0, 61}, {-1, 1}, {61, 1}, {1, 1, 0}, {1, 0, 1},
		{1, 1, -1}, {1, 1, 61}, {1, 1, math.MaxInt64}, {1, 1, math.MinInt64}, {60, 60, 0}, {60, 0}, {60, 60, 61}, {60, -1}, {0, 1, 0}, {1, 2, 3, 0},
		ones[:21], ones[:22], ones[:61], ones, append([]int64{0}, ones[:20]...), append([]int64{60}, ones[:20]...), make([]int64, 21), make([]int64, 20),
		make([]int64, 2), append(slices.Clone(ones[:19]), 0), append(slices.Clone(ones[:19]), 61), append(slices.Clone(ones[:19]), -1),
		append([]int64{-1}, ones[:19]...), append([]int64{61}, ones[:19]...)}
	for _, list := range lists {
		got, code := impl.StandardWord(list)
		wantWord(t, fmt.Sprintf("StandardWord(%.80s)", fmt.Sprint(list)), got, code, anError, impl.ErrRange)
	}
	for _, list := range [][]int64{ones[:20], append([]int64{0}, ones[:19]...), slices.Repeat([]int64{60}, 20)} {
		got, code := impl.StandardWord(list)
		wantWord(t, fmt.Sprintf("StandardWord(%v)", list), got, code, anError, impl.ErrLimit)
	}
}

func TestStandardWordAsDefined(t *testing.T) {
	lists := [][]int64{nil}
	for from := 0; len(lists[from]) < 4; from++ {
		for _, number := range []int64{0, 1, 2, 3, 4, 6, 9, 14, 15, 19, 20, 29, 30, 57, 58, 59, 60} {
			if number > 0 || len(lists[from]) == 0 {
				lists = append(lists, append(slices.Clone(lists[from]), number))
			}
		}
	}
	exact, over := 0, 0
	for _, list := range lists {
		want, longest := standardAsDefined(list)
		wantCode := int64(impl.ErrNone)
		switch {
		case longest > impl.MaxWord:
			want, wantCode = anError, impl.ErrLimit
		case longest == impl.MaxWord:
			exact++
		}
		if longest == impl.MaxWord+1 {
			over++
		}
		got, code := impl.StandardWord(list)
		wantWord(t, fmt.Sprintf("StandardWord(%v)", list), got, code, want, wantCode)
	}
	if exact < 4 || over < 4 {
		t.Errorf("%d words have just MaxWord letters, and %d would have one more", exact, over)
	}
}

func TestListOfStandard(t *testing.T) {
	cases := []struct {
		w    string
		want []int64
		code int64
	}{
		{"aba", []int64{1, 1}, impl.ErrNone},
		{"a", nil, impl.ErrNone},
		{"b", []int64{0}, impl.ErrNone},
		{"ab", []int64{1}, impl.ErrNone},
		{"ba", []int64{0, 1}, impl.ErrNone},
		{"aab", []int64{2}, impl.ErrNone},
		{"bba", []int64{0, 2}, impl.ErrNone},
		{"bab", []int64{0, 1, 1}, impl.ErrNone},
		{"abaab", []int64{1, 1, 1}, impl.ErrNone},
		{"ababa", []int64{1, 2}, impl.ErrNone},
		{"abaaba", nil, impl.ErrState},
		{"abaababa", []int64{1, 1, 1, 1}, impl.ErrNone},
		{"ababaababaababaab", []int64{1, 2, 3}, impl.ErrNone},
		{strings.Repeat("a", 59) + "b", []int64{59}, impl.ErrNone},
		{strings.Repeat("b", 59) + "a", []int64{0, 59}, impl.ErrNone},
		{strings.Repeat("a", 58) + "ba", []int64{58, 1}, impl.ErrNone},
		{strings.Repeat("ab", 29) + "a", []int64{1, 29}, impl.ErrNone},
		// Words of slopes, powers and words that are not balanced are no standard words.
		{"abb", nil, impl.ErrState},
		{"aabab", nil, impl.ErrState},
		{"abab", nil, impl.ErrState},
		{"aabb", nil, impl.ErrState},
		{"bbb", nil, impl.ErrState},
		{"baa", nil, impl.ErrState},
		{"a" + strings.Repeat("b", 59), nil, impl.ErrState},
		{strings.Repeat("ab", 30), nil, impl.ErrState},
		{strings.Repeat("a", 30) + strings.Repeat("b", 30), nil, impl.ErrState},
	}
	for _, c := range cases {
		got, code := impl.ListOfStandard(c.w)
		wantList(t, fmt.Sprintf("ListOfStandard(%q)", c.w), got, code, c.want, c.code)
	}
}

// Promise 8: standard words come back from their lists, and have just one list each.
func TestPromiseStandardWordsComeBack(t *testing.T) {
	lists := standardLists(impl.MaxWord)
	words := map[string]bool{}
	for _, list := range lists {
		of := fmt.Sprintf("(%v)", list)
		w, code := impl.StandardWord(list)
		if code != impl.ErrNone {
			t.Fatalf("StandardWord%s: code %d", of, code)
		}
		got, code := impl.ListOfStandard(w)
		wantList(t, fmt.Sprintf("ListOfStandard(%q)", w), got, code, list, impl.ErrNone)
		again, code := impl.StandardWord(got)
		wantWord(t, "StandardWord"+of, again, code, w, impl.ErrNone)
		words[w] = true
	}
	// Two for each pair of numbers of at least 1 without a common divisor, and a and b.
	if want := 2*len(pairsUpTo(impl.MaxWord, 1)) + 2; len(words) != len(lists) || len(lists) != want {
		t.Errorf("%d words of %d lists, not %d", len(words), len(lists), want)
	}
}

// The shortest list of a word is the first one, of those that are looked through in their order, that makes it.
func TestListOfStandardAsDefined(t *testing.T) {
	lists := map[string][]int64{}
	for _, list := range standardLists(12) {
		w, _ := standardAsDefined(list)
		if _, found := lists[w]; !found {
			lists[w] = list
		}
	}
	found := 0
	for _, w := range allWords(12, 2) {
		list, is := lists[w]
		wantCode := int64(impl.ErrState)
		if is {
			wantCode = impl.ErrNone
			found++
		}
		got, code := impl.ListOfStandard(w)
		wantList(t, fmt.Sprintf("ListOfStandard(%q)", w), got, code, list, wantCode)
	}
	if found != len(lists) {
		t.Errorf("%d standard words were found, of %d", found, len(lists))
	}
}

// A letter of a standard word that is changed makes it none, or one of another list.
func TestListOfChangedStandardWords(t *testing.T) {
	for _, list := range standardLists(34) {
		w, _ := standardAsDefined(list)
		for i := range w {
			changed := w[:i] + string('a'+'b'-w[i]) + w[i+1:]
			got, code := impl.ListOfStandard(changed)
			if code == impl.ErrState {
				wantList(t, fmt.Sprintf("ListOfStandard(%q)", changed), got, code, nil, impl.ErrState)
				continue
			}
			if word, _ := standardAsDefined(got); code != impl.ErrNone || word != changed {
				t.Errorf("ListOfStandard(%q) = %v, %d, which makes %q", changed, got, code, word)
			}
		}
	}
}

// wrongBalanced are lengths that are out of range for CountBalanced and BalancedWords.
var wrongBalanced = []int64{-1, -2, -1000, 1001, 1002, math.MinInt64, math.MaxInt64}

func TestCountBalanced(t *testing.T) {
	for n, want := range []int64{1, 2, 4, 8, 14, 24, 36, 54, 76, 104, 136, 178, 224, 282, 346, 418} {
		got, code := impl.CountBalanced(int64(n))
		wantNumber(t, fmt.Sprintf("CountBalanced(%d)", n), got, code, want, impl.ErrNone)
	}
	for _, n := range wrongBalanced {
		got, code := impl.CountBalanced(n)
		wantNumber(t, fmt.Sprintf("CountBalanced(%d)", n), got, code, 0, impl.ErrRange)
	}
}

// Words are looked at one by one as long as there are few of them.
func TestCountBalancedAsDefined(t *testing.T) {
	for n := range 31 {
		got, code := impl.CountBalanced(int64(n))
		wantNumber(t, fmt.Sprintf("CountBalanced(%d)", n), got, code, int64(len(balancedAsDefined(n))), impl.ErrNone)
	}
}

// From one length to the next, there are as many words more as there are pairs of numbers, i in 1..n and one of 1..i, without a common
// divisor.
func TestCountBalancedByPairs(t *testing.T) {
	want, more := int64(1), int64(0)
	for n := int64(0); n <= 1000; n++ {
		if n > 0 {
			for p := int64(1); p <= n; p++ {
				if divisorBySteps(p, n) == 1 {
					more++
				}
			}
			want += more
		}
		got, code := impl.CountBalanced(n)
		wantNumber(t, fmt.Sprintf("CountBalanced(%d)", n), got, code, want, impl.ErrNone)
	}
	if want != 101625474 {
		t.Errorf("there should be %d balanced words of 1000 letters", want)
	}
}

// divisorBySteps returns the greatest common divisor of two numbers of at least 1.
func divisorBySteps(p int64, q int64) int64 {
	for p%q != 0 {
		p, q = q, p%q
	}
	return q
}

// Terms need not be added one after the other: calls at the same time have the results of calls alone.
func TestCountBalancedTogether(t *testing.T) {
	var calls sync.WaitGroup
	for n := range int64(100) {
		want, _ := impl.CountBalanced(n)
		for range 4 {
			calls.Go(func() {
				got, code := impl.CountBalanced(n)
				wantNumber(t, fmt.Sprintf("CountBalanced(%d)", n), got, code, want, impl.ErrNone)
			})
		}
	}
	calls.Wait()
}

func TestBalancedWords(t *testing.T) {
	cases := map[int64][]string{
		0: {""},
		1: {"a", "b"},
		2: {"aa", "ab", "ba", "bb"},
		3: {"aaa", "aab", "aba", "abb", "baa", "bab", "bba", "bbb"},
		4: {"aaaa", "aaab", "aaba", "abaa", "abab", "abba", "abbb", "baaa", "baab", "baba", "babb", "bbab", "bbba", "bbbb"},
	}
	for n, want := range cases {
		got, code := impl.BalancedWords(n)
		wantList(t, fmt.Sprintf("BalancedWords(%d)", n), got, code, want, impl.ErrNone)
	}
	for _, n := range append([]int64{impl.MaxBalanced + 1, 12, 60, 61, 1000}, wrongBalanced...) {
		got, code := impl.BalancedWords(n)
		wantList(t, fmt.Sprintf("BalancedWords(%d)", n), got, code, nil, impl.ErrRange)
	}
}

// All words of a and b are looked at, and each two factors of them.
func TestBalancedWordsAsDefined(t *testing.T) {
	want := map[int][]string{}
	for _, w := range allWords(impl.MaxBalanced, 2) {
		if balanceAsDefined(w) <= 1 {
			want[len(w)] = append(want[len(w)], w)
		}
	}
	for n := range impl.MaxBalanced + 1 {
		got, code := impl.BalancedWords(int64(n))
		wantList(t, fmt.Sprintf("BalancedWords(%d)", n), got, code, want[n], impl.ErrNone)
	}
}

// Promise 13: balanced words are as many as are counted, and they are different ones, in order.
func TestPromiseBalancedWordsAreCounted(t *testing.T) {
	for n := int64(0); n <= impl.MaxBalanced; n++ {
		words, code := impl.BalancedWords(n)
		if code != impl.ErrNone {
			t.Fatalf("BalancedWords(%d): code %d", n, code)
		}
		count, code := impl.CountBalanced(n)
		wantNumber(t, fmt.Sprintf("CountBalanced(%d)", n), count, code, int64(len(words)), impl.ErrNone)
		for i, w := range words {
			balanced, code := impl.IsBalancedWord(w)
			wantAnswer(t, fmt.Sprintf("IsBalancedWord(%q)", w), balanced, code, true, impl.ErrNone)
			if int64(len(w)) != n || strings.Trim(w, "ab") != "" || i > 0 && words[i-1] >= w {
				t.Errorf("BalancedWords(%d) has %q at %d", n, w, i)
			}
		}
	}
}

func TestCentralWord(t *testing.T) {
	cases := []struct {
		p, q int64
		want string
		code int64
	}{
		{3, 2, "aba", impl.ErrNone},
		{2, 3, "bab", impl.ErrNone},
		{1, 1, "", impl.ErrNone},
		{2, 1, "a", impl.ErrNone},
		{1, 2, "b", impl.ErrNone},
		{5, 3, "abaaba", impl.ErrNone},
		{5, 2, "aabaa", impl.ErrNone},
		{57, 1, strings.Repeat("a", 56), impl.ErrNone},
		{59, 1, strings.Repeat("a", 58), impl.ErrNone},
		// The central word has two letters less than the word of the numbers, which is too long here.
		{60, 1, strings.Repeat("a", 59), impl.ErrNone},
		{61, 1, strings.Repeat("a", 60), impl.ErrNone},
		{1, 61, strings.Repeat("b", 60), impl.ErrNone},
		{31, 30, strings.Repeat("ab", 29) + "a", impl.ErrNone},
		{62, 1, anError, impl.ErrLimit},
		{1, 62, anError, impl.ErrLimit},
		{32, 31, anError, impl.ErrLimit},
		{1000, 1, anError, impl.ErrLimit},
		{1, 1000, anError, impl.ErrLimit},
		{1000, 999, anError, impl.ErrLimit},
		{999, 1000, anError, impl.ErrLimit},
	}
	for _, c := range cases {
		got, code := impl.CentralWord(c.p, c.q)
		wantWord(t, fmt.Sprintf("CentralWord(%d, %d)", c.p, c.q), got, code, c.want, c.code)
	}
}

// The guarantee: central words are palindromes. They also have the periods x and p + q - x for some x.
func TestGuaranteeCentralWordsArePalindromes(t *testing.T) {
	for _, c := range pairsUpTo(mostOfCentral+4, 1) {
		call := fmt.Sprintf("CentralWord(%d, %d)", c.p, c.q)
		w, code := impl.CentralWord(c.p, c.q)
		if c.p+c.q > mostOfCentral {
			wantWord(t, call, w, code, anError, impl.ErrLimit)
			continue
		}
		whole := slopeAsDefined(c.p, c.q)
		wantWord(t, call, w, code, whole[1:len(whole)-1], impl.ErrNone)
		palindrome, code := impl.IsPalindrome(w)
		wantAnswer(t, fmt.Sprintf("IsPalindrome(%q)", w), palindrome, code, true, impl.ErrNone)
		found := false
		for x := 1; x < len(whole); x++ {
			found = found || isPeriod(w, x) && isPeriod(w, len(whole)-x)
		}
		if !found {
			t.Errorf("%s = %q has no two periods", call, w)
		}
	}
}

func TestSteppedWord(t *testing.T) {
	cases := []struct {
		a, b, c, n int64
		want       string
		code       int64
	}{
		{1, 2, 0, 4, "abab", impl.ErrNone},
		{1, 2, 1, 4, "baba", impl.ErrNone},
		{2, 5, 0, 5, "aabab", impl.ErrNone},
		{2, 5, 0, 12, "aababaababaa", impl.ErrNone},
		{2, 5, 3, 5, "baaba", impl.ErrNone},
		{2, 5, 4, 5, "babaa", impl.ErrNone},
		{1, 2, 0, 0, "", impl.ErrNone},
		{0, 1, 0, 0, "", impl.ErrNone},
		{0, 1, 0, 3, "aaa", impl.ErrNone},
		{1, 1, 0, 3, "bbb", impl.ErrNone},
		{0, 7, 6, 3, "aaa", impl.ErrNone},
		{7, 7, 6, 3, "bbb", impl.ErrNone},
		// Numbers with a common divisor are as good as others.
		{2, 4, 0, 4, "abab", impl.ErrNone},
		{2, 4, 1, 4, "abab", impl.ErrNone},
		{2, 4, 2, 4, "baba", impl.ErrNone},
		{0, 1000, 999, 60, strings.Repeat("a", 60), impl.ErrNone},
		{1, 1000, 999, 60, "b" + strings.Repeat("a", 59), impl.ErrNone},
		{1, 1000, 940, 60, strings.Repeat("a", 59) + "b", impl.ErrNone},
		{1, 1000, 939, 60, strings.Repeat("a", 60), impl.ErrNone},
		{1000, 1000, 999, 60, strings.Repeat("b", 60), impl.ErrNone},
		{999, 1000, 0, 60, "a" + strings.Repeat("b", 59), impl.ErrNone},
		{999, 1000, 999, 60, strings.Repeat("b", 60), impl.ErrNone},
		{500, 1000, 500, 60, strings.Repeat("ba", 30), impl.ErrNone},
	}
	for _, c := range cases {
		got, code := impl.SteppedWord(c.a, c.b, c.c, c.n)
		wantWord(t, fmt.Sprintf("SteppedWord(%d, %d, %d, %d)", c.a, c.b, c.c, c.n), got, code, c.want, c.code)
	}
}

func TestNumbersOfStepsOutside(t *testing.T) {
	cases := [][4]int64{{-1, 2, 0, 4}, {3, 2, 0, 4}, {2, 1, 0, 4}, {1001, 1000, 0, 4}, {1, 0, 0, 4}, {0, 0, 0, 4}, {0, 0, 0, 0}, {0, -1, 0, 4}, {-1, -1, -2, 4},
		{1, 1001, 0, 4}, {1001, 1001, 0, 4}, {1, 2, -1, 4}, {1, 2, 2, 4}, {1, 1, 1, 4}, {0, 1, 1, 0}, {1, 1000, 1000, 4}, {1, 2, 3, 4}, {1, 2, 0, -1},
		{1, 2, 0, 61}, {0, 1, 0, 61}, {1, 2, 0, 1000}, {math.MaxInt64, 2, 0, 4}, {math.MinInt64, 2, 0, 4}, {1, math.MaxInt64, 0, 4}, {1, math.MinInt64, 0, 4},
		{1, 2, math.MaxInt64, 4}, {1, 2, math.MinInt64, 4}, {1, 2, 0, math.MaxInt64}, {1, 2, 0, math.MinInt64},
		{math.MaxInt64, math.MaxInt64, math.MaxInt64 - 1, 60}, {math.MinInt64, math.MinInt64, math.MinInt64, math.MinInt64}}
	for _, c := range cases {
		got, code := impl.SteppedWord(c[0], c[1], c[2], c[3])
		wantWord(t, fmt.Sprintf("SteppedWord%v", c), got, code, anError, impl.ErrRange)
	}
}

func TestSteppedWordAsDefined(t *testing.T) {
	for b := int64(1); b <= 13; b++ {
		for a := int64(0); a <= b; a++ {
			for c := range b {
				whole := steppedAsDefined(a, b, c, impl.MaxWord)
				for _, n := range []int64{0, 1, 2, 7, 59, 60} {
					got, code := impl.SteppedWord(a, b, c, n)
					wantWord(t, fmt.Sprintf("SteppedWord(%d, %d, %d, %d)", a, b, c, n), got, code, whole[:n], impl.ErrNone)
				}
			}
		}
	}
	for _, b := range []int64{60, 61, 97, 500, 999, 1000} {
		for _, a := range []int64{0, 1, 2, b/3 + 1, b / 2, b - 1, b} {
			for _, c := range []int64{0, 1, b / 2, b - 2, b - 1} {
				got, code := impl.SteppedWord(a, b, c, impl.MaxWord)
				wantWord(t, fmt.Sprintf("SteppedWord(%d, %d, %d, 60)", a, b, c), got, code, steppedAsDefined(a, b, c, impl.MaxWord), impl.ErrNone)
			}
		}
	}
}

// Words of slopes are stepped words, and stepped words of any start are balanced.
func TestSteppedWordsOfSlopes(t *testing.T) {
	for _, c := range pairsUpTo(mostOfSlope, 0) {
		n := c.p + c.q
		want, _ := impl.WordOfSlope(c.p, c.q)
		got, code := impl.SteppedWord(c.q, n, 0, n)
		wantWord(t, fmt.Sprintf("SteppedWord(%d, %d, 0, %d)", c.q, n, n), got, code, want, impl.ErrNone)
		turned, _ := impl.SteppedWord(c.q, n, n-1, impl.MaxWord)
		balanced, code := impl.IsBalancedWord(turned)
		wantAnswer(t, fmt.Sprintf("IsBalancedWord(%q)", turned), balanced, code, true, impl.ErrNone)
	}
}

func TestPathOf(t *testing.T) {
	cases := []struct {
		p, q int64
		want string
		code int64
	}{
		{3, 2, "ba", impl.ErrNone},
		{2, 3, "ab", impl.ErrNone},
		{1, 1, "", impl.ErrNone},
		{1, 2, "a", impl.ErrNone},
		{2, 1, "b", impl.ErrNone},
		{1, 3, "aa", impl.ErrNone},
		{3, 1, "bb", impl.ErrNone},
		{5, 2, "bba", impl.ErrNone},
		{2, 5, "aab", impl.ErrNone},
		{5, 3, "bab", impl.ErrNone},
		{7, 5, "baab", impl.ErrNone},
		{1, 61, strings.Repeat("a", 60), impl.ErrNone},
		{61, 1, strings.Repeat("b", 60), impl.ErrNone},
		{1, 62, anError, impl.ErrLimit},
		{62, 1, anError, impl.ErrLimit},
		{2, 119, strings.Repeat("a", 59) + "b", impl.ErrNone},
		{2, 121, anError, impl.ErrLimit},
		{119, 2, strings.Repeat("b", 59) + "a", impl.ErrNone},
		{121, 2, anError, impl.ErrLimit},
		// Numbers may be great, and the path short.
		{610, 987, strings.Repeat("ab", 7), impl.ErrNone},
		{987, 610, strings.Repeat("ba", 7), impl.ErrNone},
		{31, 30, "b" + strings.Repeat("a", 29), impl.ErrNone},
		{1, 1000, anError, impl.ErrLimit},
		{1000, 1, anError, impl.ErrLimit},
		{999, 1000, anError, impl.ErrLimit},
		{1000, 999, anError, impl.ErrLimit},
	}
	for _, c := range cases {
		got, code := impl.PathOf(c.p, c.q)
		wantWord(t, fmt.Sprintf("PathOf(%d, %d)", c.p, c.q), got, code, c.want, c.code)
	}
}

// walked returns the two numbers to which the letters of a path lead from 1 and 1, the last one first.
func walked(path string) pair {
	x, y := int64(1), int64(1)
	for i := len(path) - 1; i >= 0; i-- {
		if path[i] == 'a' {
			y += x
		} else {
			x += y
		}
	}
	return pair{x, y}
}

// Each path leads to its numbers, and begins as it should; those of other numbers are too long.
func TestPathOfAsDefined(t *testing.T) {
	const most = 150
	paths, long := 0, 0
	for p := int64(1); p <= most; p++ {
		for q := int64(1); q <= most; q++ {
			call := fmt.Sprintf("PathOf(%d, %d)", p, q)
			got, code := impl.PathOf(p, q)
			switch {
			case haveDivisor(p, q):
				wantWord(t, call, got, code, anError, impl.ErrRange)
			case code == impl.ErrLimit:
				wantWord(t, call, got, code, anError, impl.ErrLimit)
				long++
			default:
				if code != impl.ErrNone || walked(got) != (pair{p, q}) || !impl.IsWord(got) {
					t.Errorf("%s = %q, %d", call, got, code)
				}
				paths++
			}
		}
	}
	if want := pathsWithin(most, impl.MaxWord); paths != want || long == 0 {
		t.Errorf("%d paths, not %d, and %d that are too long", paths, want, long)
	}
}

// pathsWithin returns how many paths of at most so many letters lead to numbers that are at most a limit.
func pathsWithin(limit int64, letters int) int {
	count := 0
	reached := []pair{{1, 1}}
	for range letters + 1 {
		count += len(reached)
		var next []pair
		for _, c := range reached {
			for _, longer := range []pair{{c.p, c.p + c.q}, {c.p + c.q, c.q}} {
				if max(longer.p, longer.q) <= limit {
					next = append(next, longer)
				}
			}
		}
		reached = next
	}
	return count
}

func TestCutOf(t *testing.T) {
	cases := []struct {
		w, u, v string
		code    int64
	}{
		{"aabab", "aab", "ab", impl.ErrNone},
		{"ab", "a", "b", impl.ErrNone},
		{"aab", "a", "ab", impl.ErrNone},
		{"abb", "ab", "b", impl.ErrNone},
		{"ababb", "ab", "abb", impl.ErrNone},
		{"aabaabab", "aab", "aabab", impl.ErrNone},
		{strings.Repeat("a", 59) + "b", "a", strings.Repeat("a", 58) + "b", impl.ErrNone},
		{"a" + strings.Repeat("b", 59), "a" + strings.Repeat("b", 58), "b", impl.ErrNone},
		// Products of words of two numbers need not be one.
		{"ba", anError, anError, impl.ErrState},
		{"aa", anError, anError, impl.ErrState},
		{"bb", anError, anError, impl.ErrState},
		{"abab", anError, anError, impl.ErrState},
		{"abaab", anError, anError, impl.ErrState},
		{"aabb", anError, anError, impl.ErrState},
		{"baab", anError, anError, impl.ErrState},
		{strings.Repeat("ab", 30), anError, anError, impl.ErrState},
		{strings.Repeat("a", 60), anError, anError, impl.ErrState},
		{strings.Repeat("b", 60), anError, anError, impl.ErrState},
	}
	for _, c := range cases {
		wantCut(t, c.w, c.u, c.v, c.code)
	}
}

// The guarantee: cuts are words of slopes, whose product is the word. There is just one cut of each word.
func TestGuaranteeCutsAreWordsOfSlopes(t *testing.T) {
	slopes := slopesAsDefined(mostOfSlope)
	for w := range slopes {
		if len(w) < 2 {
			continue
		}
		u, v, code := impl.CutOf(w)
		if code != impl.ErrNone || product(t, u, v) != w {
			t.Errorf("CutOf(%q) = %q, %q, %d", w, u, v, code)
		}
		for _, part := range []string{u, v} {
			wantSlope(t, part, slopes[part].p, slopes[part].q, impl.ErrNone)
		}
		for i := 1; i < len(w); i++ {
			_, left := slopes[w[:i]]
			_, right := slopes[w[i:]]
			if (left && right) != (i == len(u)) {
				t.Errorf("CutOf(%q) = %q, %q, but it is the product of %q and %q", w, u, v, w[:i], w[i:])
			}
		}
	}
}

func TestCutOfAsDefined(t *testing.T) {
	slopes := slopesAsDefined(12)
	for _, w := range allWords(12, 2) {
		if _, is := slopes[w]; !is || len(w) < 2 {
			wantCut(t, w, anError, anError, impl.ErrState)
		}
	}
}

// StandardWord does not change its list, or what is behind it.
func TestStandardListsStayAsTheyAre(t *testing.T) {
	for _, list := range [][]int64{nil, {0}, {1, 2, 3}, {0, 1, 1}, {1, 0}, {-1}, {60, 60}} {
		whole := append(slices.Clone(list), 77, 78)
		impl.StandardWord(whole[:len(list)])
		if !slices.Equal(whole, append(slices.Clone(list), 77, 78)) {
			t.Errorf("StandardWord(%v): the list is %v now", list, whole)
		}
	}
}

func TestResultsOfSlopesAreNew(t *testing.T) {
	for _, w := range []string{"b", "ab", "abaab", "ababaababaababaab"} {
		resultsAreNew(t, "ListOfStandard", func() ([]int64, int64) { return impl.ListOfStandard(w) }, 77)
	}
	for n := range int64(4) {
		resultsAreNew(t, "BalancedWords", func() ([]string, int64) { return impl.BalancedWords(n) }, "x")
	}
}
