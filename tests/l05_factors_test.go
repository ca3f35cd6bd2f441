package tests

import (
	"fmt"
	"math"
	"slices"
	"strings"
	"testing"

	"loop.example/g01371/impl"
)

// wrongLengths are lengths of factors that are out of range everywhere.
var wrongLengths = []int64{-1, impl.MaxWord + 1, -2, 1000, math.MinInt64, math.MaxInt64}

// different returns the different factors of w with m letters, in order.
func different(w string, m int) []string {
	var all []string
	for i := 0; i+m <= len(w); i++ {
		all = append(all, w[i:i+m])
	}
	slices.Sort(all)
	return slices.Compact(all)
}

// factorWords are words of several lengths with few and with many different factors.
func factorWords() []string {
	return append(periodicWords(), "bbabaa", "abcacbcab", "cacbbabca", "aabbbaab", "aaaabca", "eabcbaed", "aababbaabab", "acbdceabdceabcde",
		"aaaabaaabbaababaabbbababbabbbbaaaa", "aaabaacabbabcacbaccbbbcbcccaa")
}

// shortFactorWords are words for tests that look through everything.
func shortFactorWords() []string {
	return append(allWords(7, 2), append(allWords(4, 3), "bbabaa", "abcacbcab", "aabbbaab", "aababbaabab", "abcde", "abaababaabaab", "edcbaedcb")...)
}

// wantPlace holds a place and a number against those that are wanted.
func wantPlace(t *testing.T, call string, i int64, k int64, code int64, place int64, number int64, wantCode int64) {
	t.Helper()
	if i != place || k != number || code != wantCode {
		t.Errorf("%s = %d, %d, %d, not %d, %d, %d", call, i, k, code, place, number, wantCode)
	}
}

// A special function is one of those that tell special factors.
type special struct {
	name string
	call func(string, int64) ([]string, int64)
}

func specials() []special {
	return []special{{"RightSpecial", impl.RightSpecial}, {"LeftSpecial", impl.LeftSpecial}, {"Bispecial", impl.Bispecial}}
}

// lengthsAreRefused tests that all functions with a word and a length return zero values and a code.
func lengthsAreRefused(t *testing.T, w string, m int64, want int64) {
	t.Helper()
	of := fmt.Sprintf("(%q, %d)", w, m)
	for _, s := range specials() {
		words, code := s.call(w, m)
		wantList(t, s.name+of, words, code, nil, want)
	}
	n, code := impl.WindowOf(w, m)
	wantNumber(t, "WindowOf"+of, n, code, 0, want)
	edges, code := impl.FactorEdges(w, m)
	wantPairs(t, "FactorEdges"+of, edges, code, nil, want)
	n, code = impl.CountCycles(w, m)
	wantNumber(t, "CountCycles"+of, n, code, 0, want)
	i, k, code := impl.LongestAntipower(w, m)
	wantPlace(t, "LongestAntipower"+of, i, k, code, 0, 0, want)
}

// Each function refuses each string that is not a word, whichever argument it is, before it looks at anything else.
func TestWordsWithFactorsAreAsked(t *testing.T) {
	for _, w := range notWords {
		of := fmt.Sprintf("(%q)", w)
		list, code := impl.ComplexityOf(w)
		wantList(t, "ComplexityOf"+of, list, code, nil, impl.ErrInvalid)
		n, code := impl.CountFactors(w)
		wantNumber(t, "CountFactors"+of, n, code, 0, impl.ErrInvalid)
		for _, m := range append([]int64{0, 1, 60}, wrongLengths...) {
			lengthsAreRefused(t, w, m, impl.ErrInvalid)
		}
		for _, u := range append([]string{"", "a", "abc", longWord(60)}, notWords...) {
			for _, pair := range [][]string{{w, u}, {u, w}} {
				of := fmt.Sprintf("(%q, %q)", pair[0], pair[1])
				words, code := impl.ReturnWords(pair[0], pair[1])
				wantList(t, "ReturnWords"+of, words, code, nil, impl.ErrInvalid)
				gaps, code := impl.GapsOf(pair[0], pair[1])
				wantList(t, "GapsOf"+of, gaps, code, nil, impl.ErrInvalid)
				common, code := impl.LongestCommonFactor(pair[0], pair[1])
				wantWord(t, "LongestCommonFactor"+of, common, code, anError, impl.ErrInvalid)
				for _, m := range append([]int64{0, 1, 60}, wrongLengths...) {
					yes, code := impl.HaveEqualFactors(pair[0], pair[1], m)
					wantAnswer(t, "HaveEqualFactors"+of, yes, code, false, impl.ErrInvalid)
				}
			}
		}
	}
}

// Lengths out of range are refused before factors are looked for; 0 to MaxWord are accepted, for antipowers from 1 on.
func TestLengthsOfFactorsOutside(t *testing.T) {
	for _, w := range []string{"", "a", "abaab", longWord(60)} {
		for _, m := range wrongLengths {
			lengthsAreRefused(t, w, m, impl.ErrRange)
			yes, code := impl.HaveEqualFactors(w, w, m)
			wantAnswer(t, fmt.Sprintf("HaveEqualFactors(%q, %q, %d)", w, w, m), yes, code, false, impl.ErrRange)
		}
		i, k, code := impl.LongestAntipower(w, 0)
		wantPlace(t, fmt.Sprintf("LongestAntipower(%q, 0)", w), i, k, code, 0, 0, impl.ErrRange)
		for m := int64(0); m <= impl.MaxWord; m++ {
			of := fmt.Sprintf("(%q, %d)", w, m)
			wanted := int64(impl.ErrNone)
			if m > int64(len(w)) {
				wanted = impl.ErrNotFound
			}
			if _, code := impl.WindowOf(w, m); code != wanted {
				t.Errorf("WindowOf%s: code %d, not %d", of, code, wanted)
			}
			if _, _, code := impl.LongestAntipower(w, m); m > 0 && code != wanted {
				t.Errorf("LongestAntipower%s: code %d, not %d", of, code, wanted)
			}
			for _, s := range specials() {
				if _, code := s.call(w, m); code != impl.ErrNone {
					t.Errorf("%s%s: code %d", s.name, of, code)
				}
			}
			_, code := impl.FactorEdges(w, m)
			_, other := impl.CountCycles(w, m)
			_, third := impl.HaveEqualFactors(w, w, m)
			if code != impl.ErrNone || other != impl.ErrNone || third != impl.ErrNone {
				t.Errorf("FactorEdges, CountCycles and HaveEqualFactors of %s: codes %d, %d, %d", of, code, other, third)
			}
		}
	}
}

func TestFactorsOfTheEmptyWord(t *testing.T) {
	list, code := impl.ComplexityOf("")
	wantList(t, `ComplexityOf("")`, list, code, []int64{1}, impl.ErrNone)
	n, code := impl.CountFactors("")
	wantNumber(t, `CountFactors("")`, n, code, 1, impl.ErrNone)
	for _, m := range []int64{0, 1, 60} {
		for _, s := range specials() {
			words, code := s.call("", m)
			wantList(t, fmt.Sprintf(`%s("", %d)`, s.name, m), words, code, nil, impl.ErrNone)
		}
		edges, code := impl.FactorEdges("", m)
		wantPairs(t, fmt.Sprintf(`FactorEdges("", %d)`, m), edges, code, nil, impl.ErrNone)
		n, code = impl.CountCycles("", m)
		wantNumber(t, fmt.Sprintf(`CountCycles("", %d)`, m), n, code, 0, impl.ErrNone)
	}
	n, code = impl.WindowOf("", 0)
	wantNumber(t, `WindowOf("", 0)`, n, code, 0, impl.ErrNone)
	n, code = impl.WindowOf("", 1)
	wantNumber(t, `WindowOf("", 1)`, n, code, 0, impl.ErrNotFound)
	i, k, code := impl.LongestAntipower("", 1)
	wantPlace(t, `LongestAntipower("", 1)`, i, k, code, 0, 0, impl.ErrNotFound)
}

func TestFactorsOfOneLetter(t *testing.T) {
	for _, w := range []string{"a", "b", "c", "d", "e"} {
		list, code := impl.ComplexityOf(w)
		wantList(t, "ComplexityOf "+w, list, code, []int64{1, 1}, impl.ErrNone)
		n, code := impl.CountFactors(w)
		wantNumber(t, "CountFactors "+w, n, code, 2, impl.ErrNone)
		for _, m := range []int64{0, 1, 2} {
			for _, s := range specials() {
				words, code := s.call(w, m)
				wantList(t, s.name+" "+w, words, code, nil, impl.ErrNone)
			}
		}
		words, code := impl.ReturnWords(w, w)
		wantList(t, "ReturnWords "+w, words, code, nil, impl.ErrNotFound)
		gaps, code := impl.GapsOf(w, w)
		wantList(t, "GapsOf "+w, gaps, code, nil, impl.ErrNone)
		n, code = impl.WindowOf(w, 0)
		wantNumber(t, "WindowOf "+w, n, code, 0, impl.ErrNone)
		n, code = impl.WindowOf(w, 1)
		wantNumber(t, "WindowOf "+w, n, code, 1, impl.ErrNone)
		n, code = impl.WindowOf(w, 2)
		wantNumber(t, "WindowOf "+w, n, code, 0, impl.ErrNotFound)
		edges, code := impl.FactorEdges(w, 0)
		wantPairs(t, "FactorEdges "+w, edges, code, [][]int64{{0, 0}}, impl.ErrNone)
		edges, code = impl.FactorEdges(w, 1)
		wantPairs(t, "FactorEdges "+w, edges, code, nil, impl.ErrNone)
		i, k, code := impl.LongestAntipower(w, 1)
		wantPlace(t, "LongestAntipower "+w, i, k, code, 0, 1, impl.ErrNone)
		i, k, code = impl.LongestAntipower(w, 2)
		wantPlace(t, "LongestAntipower "+w, i, k, code, 0, 0, impl.ErrNotFound)
		common, code := impl.LongestCommonFactor(w, w)
		wantWord(t, "LongestCommonFactor "+w, common, code, w, impl.ErrNone)
	}
}

func TestComplexityOf(t *testing.T) {
	cases := map[string][]int64{
		"abaab":    {1, 2, 3, 3, 2, 1},
		"aaaa":     {1, 1, 1, 1, 1},
		"ab":       {1, 2, 1},
		"abab":     {1, 2, 2, 2, 1},
		"aab":      {1, 2, 2, 1},
		"abcde":    {1, 5, 4, 3, 2, 1},
		"edcba":    {1, 5, 4, 3, 2, 1},
		"abcabc":   {1, 3, 3, 3, 3, 2, 1},
		"bbabaa":   {1, 2, 4, 4, 3, 2, 1},
		"aaabbbab": {1, 2, 4, 6, 5, 4, 3, 2, 1},
	}
	for w, want := range cases {
		of := fmt.Sprintf("(%q)", w)
		got, code := impl.ComplexityOf(w)
		wantList(t, "ComplexityOf"+of, got, code, want, impl.ErrNone)
	}
}

// Words without an end have known numbers of factors, of which beginnings of 60 letters have all short ones.
func TestComplexityOfNamedWords(t *testing.T) {
	cases := map[string][]int64{
		"fibonacci": {1, 2, 3, 4, 5, 6, 7, 8, 9, 10, 11},
		"thue":      {1, 2, 4, 6, 10, 12, 16, 20},
		"doubling":  {1, 2, 3, 5, 6, 8},
	}
	for name, want := range cases {
		w, _ := impl.NamedWord(name, 60)
		got, code := impl.ComplexityOf(w)
		if len(got) != 61 {
			t.Fatalf("ComplexityOf(%q) = %v, %d", w, got, code)
		}
		wantList(t, "ComplexityOf "+name, got[:len(want)], code, want, impl.ErrNone)
	}
}

func TestCountFactors(t *testing.T) {
	cases := map[string]int64{
		"abaab": 12, "aaaa": 5, "ab": 4, "abab": 8, "aab": 6, "abcde": 16, "abcabc": 16,
		strings.Repeat("a", 60): 61, strings.Repeat("a", 59): 60, strings.Repeat("a", 59) + "b": 120, longWord(60): 291, longWord(6): 21,
	}
	for w, want := range cases {
		got, code := impl.CountFactors(w)
		wantNumber(t, fmt.Sprintf("CountFactors(%q)", w), got, code, want, impl.ErrNone)
	}
}

func TestComplexityAsDefined(t *testing.T) {
	for _, w := range factorWords() {
		var want []int64
		total := int64(0)
		for m := 0; m <= len(w); m++ {
			count := int64(len(different(w, m)))
			want = append(want, count)
			total += count
		}
		got, code := impl.ComplexityOf(w)
		wantList(t, fmt.Sprintf("ComplexityOf(%q)", w), got, code, want, impl.ErrNone)
		n, code := impl.CountFactors(w)
		wantNumber(t, fmt.Sprintf("CountFactors(%q)", w), n, code, total, impl.ErrNone)
	}
}

// Promise 5: numbers of factors are at most those of places. They are those of chapter 1.
func TestPromiseNumbersOfFactorsAtMostPlaces(t *testing.T) {
	for _, w := range factorWords() {
		n := int64(len(w))
		counts, code := impl.ComplexityOf(w)
		if code != impl.ErrNone || int64(len(counts)) != n+1 {
			t.Fatalf("ComplexityOf(%q) = %v, %d", w, counts, code)
		}
		total, places := int64(0), int64(0)
		for m, count := range counts {
			factors, code := impl.FactorsOf(w, int64(m))
			if code != impl.ErrNone || count != int64(len(factors)) || count < 1 || count > n-int64(m)+1 {
				t.Errorf("ComplexityOf(%q) has %d for %d, with %d factors at %d places", w, count, m, len(factors), n-int64(m)+1)
			}
			for _, factor := range factors {
				found, _ := impl.PlacesOf(w, factor)
				places += int64(len(found))
			}
			total += count
		}
		all, code := impl.CountFactors(w)
		if code != impl.ErrNone || all != total || all > places || all > 1+n*(n+1)/2 {
			t.Errorf("CountFactors(%q) = %d, %d, with %d factors at %d places", w, all, code, total, places)
		}
	}
}

func TestSpecialFactors(t *testing.T) {
	as := strings.Repeat("a", 58)
	cases := []struct {
		w               string
		m               int64
		right, left, bi []string
	}{
		{"abaab", 0, []string{""}, []string{""}, []string{""}},
		{"abaab", 1, []string{"a"}, []string{"a"}, []string{"a"}},
		{"abaab", 2, nil, nil, nil},
		{"abaab", 5, nil, nil, nil},
		{"abaab", 6, nil, nil, nil},
		{"abaab", 60, nil, nil, nil},
		{"aaa", 0, nil, nil, nil},
		{"aaa", 1, nil, nil, nil},
		{"ab", 0, []string{""}, []string{""}, []string{""}},
		{"ab", 1, nil, nil, nil},
		// Letters ahead of a factor say nothing of those behind it.
		{"aab", 1, []string{"a"}, nil, nil},
		{"baa", 1, nil, []string{"a"}, nil},
		{"bbabaa", 1, []string{"a", "b"}, []string{"a", "b"}, []string{"a", "b"}},
		{"bbabaa", 2, []string{"ba"}, []string{"ba"}, []string{"ba"}},
		{"bbabaa", 3, nil, nil, nil},
		{"abacad", 1, []string{"a"}, []string{"a"}, []string{"a"}},
		{"abcad", 1, []string{"a"}, nil, nil},
		{"dacba", 1, nil, []string{"a"}, nil},
		{"eaecaed", 2, []string{"ae"}, []string{"ae"}, []string{"ae"}},
		{"daedbe", 1, []string{"d"}, []string{"e"}, nil},
		{"cacbcacb", 1, []string{"c"}, []string{"c"}, []string{"c"}},
		{"cacbcacb", 2, nil, nil, nil},
		{longWord(60), 0, []string{""}, []string{""}, []string{""}},
		{longWord(60), 1, nil, nil, nil},
		{as + "ab", 58, []string{as}, nil, nil},
		{as + "ab", 57, []string{as[1:]}, nil, nil},
		{as + "ab", 59, nil, nil, nil},
		{as + "ab", 60, nil, nil, nil},
		{"ba" + as, 58, nil, []string{as}, nil},
		{"ba" + as, 59, nil, nil, nil},
	}
	for _, c := range cases {
		for i, s := range specials() {
			got, code := s.call(c.w, c.m)
			want := [][]string{c.right, c.left, c.bi}[i]
			wantList(t, fmt.Sprintf("%s(%q, %d)", s.name, c.w, c.m), got, code, want, impl.ErrNone)
		}
	}
}

// ways returns how many different letters stand behind the places of a factor of w, and how many ahead of them.
func ways(w string, factor string) (int, int) {
	behind, ahead := map[byte]bool{}, map[byte]bool{}
	for i := 0; i+len(factor) <= len(w); i++ {
		if w[i:i+len(factor)] != factor {
			continue
		}
		if i > 0 {
			ahead[w[i-1]] = true
		}
		if i+len(factor) < len(w) {
			behind[w[i+len(factor)]] = true
		}
	}
	return len(behind), len(ahead)
}

func TestSpecialFactorsAsDefined(t *testing.T) {
	for _, w := range factorWords() {
		for m := range min(len(w)+2, 61) {
			var want [3][]string
			for _, factor := range different(w, m) {
				behind, ahead := ways(w, factor)
				if behind > 1 {
					want[0] = append(want[0], factor)
				}
				if ahead > 1 {
					want[1] = append(want[1], factor)
				}
				if behind > 1 && ahead > 1 {
					want[2] = append(want[2], factor)
				}
			}
			for i, s := range specials() {
				got, code := s.call(w, int64(m))
				wantList(t, fmt.Sprintf("%s(%q, %d)", s.name, w, m), got, code, want[i], impl.ErrNone)
			}
		}
	}
}

// The guarantee: special factors are factors.
func TestGuaranteeSpecialFactorsAreFactors(t *testing.T) {
	for _, w := range factorWords() {
		for m := range int64(min(len(w)+2, 61)) {
			factors, _ := impl.FactorsOf(w, m)
			for _, s := range specials() {
				words, code := s.call(w, m)
				if code != impl.ErrNone {
					t.Errorf("%s(%q, %d): code %d", s.name, w, m, code)
				}
				for _, word := range words {
					if !slices.Contains(factors, word) {
						t.Errorf("%s(%q, %d) has %q, which is no factor of this length", s.name, w, m, word)
					}
				}
			}
		}
	}
}

// elevenFives are the gaps of a letter in the word of 60 letters that has the period 5.
var elevenFives = []int64{5, 5, 5, 5, 5, 5, 5, 5, 5, 5, 5}

func TestReturnWordsAndGaps(t *testing.T) {
	as := strings.Repeat("a", 58)
	cases := []struct {
		w, u  string
		words []string
		gaps  []int64
	}{
		{"abaababa", "a", []string{"a", "ab"}, []int64{2, 1, 2, 2}},
		{"abaababa", "b", []string{"ba", "baa"}, []int64{3, 2}},
		{"abaababa", "aba", []string{"ab", "aba"}, []int64{3, 2}},
		{"aaaa", "a", []string{"a"}, []int64{1, 1, 1}},
		{"aaaa", "aa", []string{"a"}, []int64{1, 1}},
		{"aaaa", "aaa", []string{"a"}, []int64{1}},
		{"abcabcab", "abcab", []string{"abc"}, []int64{3}},
		{"acabaca", "a", []string{"ab", "ac"}, []int64{2, 2, 2}},
		// Return words are in order, not in that of their places, and shorter ones that others begin with come first.
		{"cbcacbc", "c", []string{"ca", "cb"}, []int64{2, 2, 2}},
		{"abbabaa", "a", []string{"a", "ab", "abb"}, []int64{3, 2, 1}},
		{longWord(60), "a", []string{"abcde"}, elevenFives},
		{longWord(60), "e", []string{"eabcd"}, elevenFives},
		{"b" + as + "b", "b", []string{"b" + as}, []int64{59}},
		{as + "aa", as + "a", []string{"a"}, []int64{1}},
	}
	for _, c := range cases {
		of := fmt.Sprintf("(%q, %q)", c.w, c.u)
		words, code := impl.ReturnWords(c.w, c.u)
		wantList(t, "ReturnWords"+of, words, code, c.words, impl.ErrNone)
		gaps, code := impl.GapsOf(c.w, c.u)
		wantList(t, "GapsOf"+of, gaps, code, c.gaps, impl.ErrNone)
	}
}

// A factor without a second place has no return words, and no gaps; one without a place is not found.
func TestReturnWordsOfFewPlaces(t *testing.T) {
	for _, w := range []string{"", "a", "aa", "abaab", longWord(60)} {
		words, code := impl.ReturnWords(w, "")
		wantList(t, fmt.Sprintf("ReturnWords(%q, empty)", w), words, code, nil, impl.ErrRange)
		gaps, code := impl.GapsOf(w, "")
		wantList(t, fmt.Sprintf("GapsOf(%q, empty)", w), gaps, code, nil, impl.ErrRange)
	}
	for _, pair := range [][]string{{"abc", "b"}, {"abab", "abab"}, {"abab", "bab"}, {"e", "e"}, {longWord(60), longWord(60)}, {"aab", "aa"}} {
		of := fmt.Sprintf("(%q, %q)", pair[0], pair[1])
		words, code := impl.ReturnWords(pair[0], pair[1])
		wantList(t, "ReturnWords"+of, words, code, nil, impl.ErrNotFound)
		gaps, code := impl.GapsOf(pair[0], pair[1])
		wantList(t, "GapsOf"+of, gaps, code, nil, impl.ErrNone)
	}
	for _, pair := range [][]string{{"", "a"}, {"abc", "d"}, {"abab", "aa"}, {"ab", "aba"}, {"ab", longWord(60)}, {longWord(60), "ba"}} {
		of := fmt.Sprintf("(%q, %q)", pair[0], pair[1])
		words, code := impl.ReturnWords(pair[0], pair[1])
		wantList(t, "ReturnWords"+of, words, code, nil, impl.ErrNotFound)
		gaps, code := impl.GapsOf(pair[0], pair[1])
		wantList(t, "GapsOf"+of, gaps, code, nil, impl.ErrNotFound)
	}
}

// The guarantee: return words are as long as gaps. Both are as defined, from each place of a factor to the next one.
func TestGuaranteeReturnWordsAreAsLongAsGaps(t *testing.T) {
	for _, w := range append(shortFactorWords(), longWord(60), strings.Repeat("aab", 20), strings.Repeat("a", 60)) {
		for m := 1; m <= min(len(w), 12); m++ {
			for _, u := range different(w, m) {
				of := fmt.Sprintf("(%q, %q)", w, u)
				places, _ := impl.PlacesOf(w, u)
				var gaps []int64
				var words []string
				for i := 1; i < len(places); i++ {
					gaps = append(gaps, places[i]-places[i-1])
					words = append(words, w[places[i-1]:places[i]])
				}
				slices.Sort(words)
				got, code := impl.GapsOf(w, u)
				wantList(t, "GapsOf"+of, got, code, gaps, impl.ErrNone)
				returned, code := impl.ReturnWords(w, u)
				if len(places) < 2 {
					wantList(t, "ReturnWords"+of, returned, code, nil, impl.ErrNotFound)
					continue
				}
				wantList(t, "ReturnWords"+of, returned, code, slices.Compact(words), impl.ErrNone)
				for _, word := range returned {
					if !slices.Contains(got, int64(len(word))) {
						t.Errorf("ReturnWords%s has %q, and the gaps are %v", of, word, got)
					}
				}
				for _, gap := range got {
					if !slices.ContainsFunc(returned, func(word string) bool { return int64(len(word)) == gap }) {
						t.Errorf("GapsOf%s has %d, and the return words are %v", of, gap, returned)
					}
				}
			}
		}
	}
}

func TestWindowOf(t *testing.T) {
	bs := strings.Repeat("a", 59) + "b"
	cases := []struct {
		w       string
		m, want int64
		code    int64
	}{
		{"abaababa", 0, 0, impl.ErrNone},
		{"abaababa", 1, 3, impl.ErrNone},
		{"abaababa", 2, 6, impl.ErrNone},
		{"abaababa", 8, 8, impl.ErrNone},
		{"abaababa", 9, 0, impl.ErrNotFound},
		{"aaaa", 1, 1, impl.ErrNone},
		{"aaaa", 2, 2, impl.ErrNone},
		{"aaaa", 4, 4, impl.ErrNone},
		{"ab", 1, 2, impl.ErrNone},
		{"ab", 2, 2, impl.ErrNone},
		{"ab", 3, 0, impl.ErrNotFound},
		{"abcde", 1, 5, impl.ErrNone},
		// The longest factors without a letter are at the beginning, between its places, and at the end.
		{"aaabab", 1, 4, impl.ErrNone},
		{"abaaab", 1, 4, impl.ErrNone},
		{"babaaa", 1, 4, impl.ErrNone},
		{longWord(60), 0, 0, impl.ErrNone},
		{longWord(60), 1, 5, impl.ErrNone},
		{longWord(60), 2, 6, impl.ErrNone},
		{longWord(60), 55, 59, impl.ErrNone},
		{longWord(60), 56, 60, impl.ErrNone},
		{longWord(60), 57, 60, impl.ErrNone},
		{longWord(60), 60, 60, impl.ErrNone},
		{longWord(59), 59, 59, impl.ErrNone},
		{longWord(59), 60, 0, impl.ErrNotFound},
		{bs, 1, 60, impl.ErrNone},
		{strings.Repeat("a", 60), 30, 30, impl.ErrNone},
	}
	for _, c := range cases {
		got, code := impl.WindowOf(c.w, c.m)
		wantNumber(t, fmt.Sprintf("WindowOf(%q, %d)", c.w, c.m), got, code, c.want, c.code)
	}
}

// allHave reports whether each factor of w with n letters has all different factors of w with m letters.
func allHave(w string, n int, m int) bool {
	for i := 0; i+n <= len(w); i++ {
		for j := 0; j+m <= len(w); j++ {
			if !strings.Contains(w[i:i+n], w[j:j+m]) {
				return false
			}
		}
	}
	return true
}

func TestWindowAsDefined(t *testing.T) {
	for _, w := range shortFactorWords() {
		for m := 0; m <= len(w); m++ {
			n := 0
			for !allHave(w, n, m) {
				n++
			}
			got, code := impl.WindowOf(w, int64(m))
			wantNumber(t, fmt.Sprintf("WindowOf(%q, %d)", w, m), got, code, int64(n), impl.ErrNone)
		}
	}
}

// Promise 5: windows have all factors. No shorter factors have.
func TestPromiseWindowsHaveAllFactors(t *testing.T) {
	for _, w := range factorWords() {
		for m := range int64(len(w) + 1) {
			factors, _ := impl.FactorsOf(w, m)
			window, code := impl.WindowOf(w, m)
			windows, other := impl.FactorsOf(w, window)
			if code != impl.ErrNone || other != impl.ErrNone || len(windows) == 0 {
				t.Fatalf("WindowOf(%q, %d) = %d, %d, with %d factors", w, m, window, code, len(windows))
			}
			for _, factor := range windows {
				inside, code := impl.FactorsOf(factor, m)
				wantList(t, fmt.Sprintf("the factors of %d letters in %q of %q", m, factor, w), inside, code, factors, impl.ErrNone)
			}
			if window > 0 && allHave(w, int(window-1), int(m)) {
				t.Errorf("WindowOf(%q, %d) = %d, and factors of one letter less have all of them", w, m, window)
			}
		}
	}
}

func TestFactorEdges(t *testing.T) {
	loops := [][]int64{{0, 0}, {0, 0}, {0, 0}, {0, 0}, {0, 0}}
	circle := [][]int64{{0, 1}, {1, 2}, {2, 3}, {3, 4}, {4, 0}}
	cases := []struct {
		w      string
		m      int64
		edges  [][]int64
		cycles int64
	}{
		{"abaab", 0, [][]int64{{0, 0}, {0, 0}}, 2},
		{"abaab", 1, [][]int64{{0, 0}, {0, 1}, {1, 0}}, 2},
		{"abaab", 2, [][]int64{{0, 1}, {1, 2}, {2, 0}}, 1},
		{"abaab", 3, [][]int64{{1, 2}, {2, 0}}, 0},
		{"abaab", 4, [][]int64{{0, 1}}, 0},
		{"abaab", 5, nil, 0},
		{"abaab", 6, nil, 0},
		{"abaab", 60, nil, 0},
		{"aaa", 0, [][]int64{{0, 0}}, 1},
		{"aaa", 1, [][]int64{{0, 0}}, 1},
		{"aaa", 2, [][]int64{{0, 0}}, 1},
		{"aaa", 3, nil, 0},
		{"cab", 1, [][]int64{{0, 1}, {2, 0}}, 0},
		{"dbeb", 1, [][]int64{{0, 2}, {1, 0}, {2, 0}}, 1},
		{longWord(60), 0, loops, 5},
		{longWord(60), 1, circle, 1},
		{longWord(60), 55, circle, 1},
		{longWord(60), 56, circle[:4], 0},
		{longWord(60), 59, [][]int64{{0, 1}}, 0},
		{longWord(60), 60, nil, 0},
		{longWord(59), 59, nil, 0},
		{longWord(59), 60, nil, 0},
		{strings.Repeat("a", 60), 59, [][]int64{{0, 0}}, 1},
		{strings.Repeat("a", 60), 60, nil, 0},
	}
	for _, c := range cases {
		of := fmt.Sprintf("(%q, %d)", c.w, c.m)
		edges, code := impl.FactorEdges(c.w, c.m)
		wantPairs(t, "FactorEdges"+of, edges, code, c.edges, impl.ErrNone)
		cycles, code := impl.CountCycles(c.w, c.m)
		wantNumber(t, "CountCycles"+of, cycles, code, c.cycles, impl.ErrNone)
	}
}

func TestFactorEdgesAsDefined(t *testing.T) {
	for _, w := range factorWords() {
		for m := range min(len(w)+2, 61) {
			of := fmt.Sprintf("(%q, %d)", w, m)
			points := different(w, m)
			var want [][]int64
			for _, factor := range different(w, m+1) {
				from, to := slices.Index(points, factor[:m]), slices.Index(points, factor[1:])
				want = append(want, []int64{int64(from), int64(to)})
			}
			edges, code := impl.FactorEdges(w, int64(m))
			wantPairs(t, "FactorEdges"+of, edges, code, want, impl.ErrNone)
			cycles := len(want) - len(points) + 1
			if len(points) == 0 {
				cycles = 0
			}
			n, code := impl.CountCycles(w, int64(m))
			wantNumber(t, "CountCycles"+of, n, code, int64(cycles), impl.ErrNone)
		}
	}
}

func TestLongestAntipower(t *testing.T) {
	bs := strings.Repeat("a", 59) + "b"
	cases := []struct {
		w           string
		m, place, k int64
		code        int64
	}{
		{"aabbba", 2, 0, 3, impl.ErrNone},
		{"aaab", 1, 2, 2, impl.ErrNone},
		{"aaaa", 1, 0, 1, impl.ErrNone},
		{"aaaa", 2, 0, 1, impl.ErrNone},
		{"aaaa", 4, 0, 1, impl.ErrNone},
		{"aaaa", 5, 0, 0, impl.ErrNotFound},
		{"aaaa", 60, 0, 0, impl.ErrNotFound},
		{"abcabcd", 1, 3, 4, impl.ErrNone},
		// Places need not be multiples of the length.
		{"aaaabca", 2, 1, 3, impl.ErrNone},
		{"aabcd", 2, 0, 2, impl.ErrNone},
		{"abacab", 1, 1, 3, impl.ErrNone},
		// The last letters are too few for one factor more.
		{"abcabcd", 3, 1, 2, impl.ErrNone},
		{"abcab", 3, 0, 1, impl.ErrNone},
		{"abcabd", 3, 0, 2, impl.ErrNone},
		{longWord(60), 1, 0, 5, impl.ErrNone},
		{longWord(60), 2, 0, 5, impl.ErrNone},
		{longWord(60), 5, 0, 1, impl.ErrNone},
		{longWord(60), 29, 0, 2, impl.ErrNone},
		{longWord(60), 31, 0, 1, impl.ErrNone},
		{longWord(60), 60, 0, 1, impl.ErrNone},
		{longWord(59), 60, 0, 0, impl.ErrNotFound},
		{bs, 1, 58, 2, impl.ErrNone},
		{bs, 7, 46, 2, impl.ErrNone},
		{bs, 30, 0, 2, impl.ErrNone},
		{bs, 59, 0, 1, impl.ErrNone},
	}
	for _, c := range cases {
		i, k, code := impl.LongestAntipower(c.w, c.m)
		wantPlace(t, fmt.Sprintf("LongestAntipower(%q, %d)", c.w, c.m), i, k, code, c.place, c.k, c.code)
	}
}

// isAntipower reports whether there is an antipower of k with the length m at the place i of w.
func isAntipower(w string, i int, k int, m int) bool {
	if i+k*m > len(w) {
		return false
	}
	for x := range k {
		for y := range x {
			if w[i+x*m:i+x*m+m] == w[i+y*m:i+y*m+m] {
				return false
			}
		}
	}
	return true
}

func TestLongestAntipowerAsDefined(t *testing.T) {
	for _, w := range factorWords() {
		for m := 1; m <= len(w); m++ {
			place, greatest := 0, 0
			for i := range w {
				for k := 1; i+k*m <= len(w); k++ {
					if k > greatest && isAntipower(w, i, k, m) {
						place, greatest = i, k
					}
				}
			}
			i, k, code := impl.LongestAntipower(w, int64(m))
			wantPlace(t, fmt.Sprintf("LongestAntipower(%q, %d)", w, m), i, k, code, int64(place), int64(greatest), impl.ErrNone)
		}
	}
}

func TestLongestCommonFactor(t *testing.T) {
	cases := []struct{ w, u, want string }{
		{"abcab", "cabb", "cab"},
		{"ab", "cd", ""},
		{"", "", ""},
		{"", "abc", ""},
		{"abc", "", ""},
		{"abc", "cba", "a"},
		{"bab", "abb", "ab"},
		// Of longest ones the first in order is taken, wherever it begins.
		{"cdab", "abcd", "ab"},
		{"abcd", "cdab", "ab"},
		{"ebead", "adebc", "ad"},
		{"eba", "bae", "ba"},
		{"aaaa", "aa", "aa"},
		{"aabaa", "abaab", "abaa"},
		{"abcde", "abcde", "abcde"},
		{"abcde", "eabcd", "abcd"},
		{longWord(60), longWord(60), longWord(60)},
		{longWord(60), longWord(59)[1:], longWord(59)[1:]},
		{longWord(60), strings.Repeat("a", 60), "a"},
		{strings.Repeat("a", 60), strings.Repeat("a", 59) + "b", strings.Repeat("a", 59)},
		{strings.Repeat("ab", 30), "b" + strings.Repeat("ab", 29) + "a", strings.Repeat("ab", 29) + "a"},
	}
	for _, c := range cases {
		got, code := impl.LongestCommonFactor(c.w, c.u)
		wantWord(t, fmt.Sprintf("LongestCommonFactor(%q, %q)", c.w, c.u), got, code, c.want, impl.ErrNone)
	}
}

// commonAsDefined returns the first one, in order, of the longest factors that both words have.
func commonAsDefined(w string, u string) string {
	for m := len(w); ; m-- {
		for _, factor := range different(w, m) {
			if strings.Contains(u, factor) {
				return factor
			}
		}
	}
}

func TestLongestCommonFactorAsDefined(t *testing.T) {
	words := append(mixedWords(), "abcacbcab", "cacbbabca", "aabbbaab", "acbdceabdceabcde", "eabcbaed", "bcdbcadbcabd")
	for _, w := range words {
		for _, u := range words {
			got, code := impl.LongestCommonFactor(w, u)
			wantWord(t, fmt.Sprintf("LongestCommonFactor(%q, %q)", w, u), got, code, commonAsDefined(w, u), impl.ErrNone)
		}
	}
}

func TestHaveEqualFactors(t *testing.T) {
	cases := []struct {
		w, u string
		m    int64
		want bool
	}{
		{"aab", "baa", 0, true},
		{"aab", "baa", 1, true},
		{"aab", "baa", 2, false},
		{"aab", "baa", 3, false},
		{"aab", "baa", 4, true},
		{"ab", "abab", 1, true},
		{"ab", "abab", 2, false},
		{"ab", "abab", 3, false},
		{"ab", "abab", 5, true},
		{"ab", "ac", 0, true},
		{"ab", "ac", 1, false},
		{"abc", "ab", 1, false},
		{"abab", "baba", 2, true},
		{"abab", "baba", 3, true},
		{"abab", "baba", 4, false},
		{"", "", 0, true},
		{"", "", 1, true},
		{"", "a", 0, true},
		{"", "a", 1, false},
		{"", "a", 2, true},
		{"", longWord(60), 60, false},
		{"a", "b", 60, true},
		{longWord(60), longWord(59), 5, true},
		{longWord(60), longWord(59), 55, true},
		{longWord(60), longWord(59), 56, false},
		{longWord(60), longWord(59), 60, false},
		{longWord(60), longWord(60), 60, true},
	}
	for _, c := range cases {
		got, code := impl.HaveEqualFactors(c.w, c.u, c.m)
		wantAnswer(t, fmt.Sprintf("HaveEqualFactors(%q, %q, %d)", c.w, c.u, c.m), got, code, c.want, impl.ErrNone)
		got, code = impl.HaveEqualFactors(c.u, c.w, c.m)
		wantAnswer(t, fmt.Sprintf("HaveEqualFactors(%q, %q, %d)", c.u, c.w, c.m), got, code, c.want, impl.ErrNone)
	}
}

func TestHaveEqualFactorsAsDefined(t *testing.T) {
	words := append(allWords(6, 2), "abc", "bcabc", "cab", "abcabc", longWord(30), longWord(31))
	for _, w := range words {
		for _, u := range words {
			for m := range 8 {
				got, code := impl.HaveEqualFactors(w, u, int64(m))
				want := slices.Equal(different(w, m), different(u, m))
				wantAnswer(t, fmt.Sprintf("HaveEqualFactors(%q, %q, %d)", w, u, m), got, code, want, impl.ErrNone)
			}
		}
	}
}

func TestResultsOfFactorsAreNew(t *testing.T) {
	resultsAreNew(t, "ComplexityOf", func() ([]int64, int64) { return impl.ComplexityOf("abaab") }, 77)
	for _, s := range specials() {
		resultsAreNew(t, s.name, func() ([]string, int64) { return s.call("bbabaa", 1) }, "x")
	}
	resultsAreNew(t, "ReturnWords", func() ([]string, int64) { return impl.ReturnWords("abaab", "a") }, "x")
	resultsAreNew(t, "GapsOf", func() ([]int64, int64) { return impl.GapsOf("abaab", "a") }, 77)
	pairsAreNew(t, "FactorEdges", func() ([][]int64, int64) { return impl.FactorEdges("abaab", 1) })
}
