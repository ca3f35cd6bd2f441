package tests

import (
	"fmt"
	"math"
	"slices"
	"sort"
	"strings"
	"testing"

	"loop.example/g01371/impl"
)

func TestConstantsOfWords(t *testing.T) {
	codes := []int64{impl.ErrNone, impl.ErrInvalid, impl.ErrRange, impl.ErrLimit, impl.ErrNotFound, impl.ErrState, impl.ErrSyntax}
	if !slices.Equal(codes, []int64{0, 1, 2, 3, 4, 5, 6}) {
		t.Errorf("the codes are %v", codes)
	}
	if impl.MaxWord != 60 || impl.MaxLetters != 5 {
		t.Errorf("the limits are %d and %d", impl.MaxWord, impl.MaxLetters)
	}
}

func TestIsWord(t *testing.T) {
	for _, w := range append(mixedWords(), "a", "b", "c", "d", "e") {
		if !impl.IsWord(w) {
			t.Errorf("IsWord(%q) is false", w)
		}
	}
	for _, w := range notWords {
		if impl.IsWord(w) {
			t.Errorf("IsWord(%q) is true", w)
		}
	}
	for b := range 256 {
		one := string([]byte{byte(b)})
		if impl.IsWord(one) != (b >= 'a' && b <= 'e') {
			t.Errorf("IsWord(%q) is wrong", one)
		}
		last := longWord(59) + one
		if impl.IsWord(last) != impl.IsWord(one) {
			t.Errorf("IsWord(%q) is wrong", last)
		}
	}
}

// Each function refuses each string that is not a word, in each place, also where another error is there as well.
func TestWordsAreAsked(t *testing.T) {
	for _, x := range notWords {
		for _, y := range []string{"", "ab", longWord(60)} {
			for _, pair := range [][2]string{{x, y}, {y, x}, {x, x}} {
				w, u := pair[0], pair[1]
				of := fmt.Sprintf("(%q, %q)", w, u)
				got, code := impl.ProductOf(w, u)
				wantWord(t, "ProductOf"+of, got, code, anError, impl.ErrInvalid)
				got, code = impl.CommonBeginning(w, u)
				wantWord(t, "CommonBeginning"+of, got, code, anError, impl.ErrInvalid)
				got, code = impl.CommonEnd(w, u)
				wantWord(t, "CommonEnd"+of, got, code, anError, impl.ErrInvalid)
				list, code := impl.PlacesOf(w, u)
				wantList(t, "PlacesOf"+of, list, code, nil, impl.ErrInvalid)
				yes, code := impl.IsScattered(w, u)
				wantAnswer(t, "IsScattered"+of, yes, code, false, impl.ErrInvalid)
				n, code := impl.CountScattered(w, u)
				wantNumber(t, "CountScattered"+of, n, code, 0, impl.ErrInvalid)
				n, code = impl.CompareWords(w, u)
				wantNumber(t, "CompareWords"+of, n, code, 0, impl.ErrInvalid)
			}
		}
		of := fmt.Sprintf("(%q)", x)
		got, code := impl.ReverseOf(x)
		wantWord(t, "ReverseOf"+of, got, code, anError, impl.ErrInvalid)
		list, code := impl.CountLetters(x)
		wantList(t, "CountLetters"+of, list, code, nil, impl.ErrInvalid)
		list, code = impl.LettersOf(x)
		wantList(t, "LettersOf"+of, list, code, nil, impl.ErrInvalid)
		for _, p := range [][]int64{{0, 1, 2, 3, 4}, {5}, nil} {
			got, code = impl.RenameLetters(x, p)
			wantWord(t, "RenameLetters"+of, got, code, anError, impl.ErrInvalid)
		}
		for _, k := range []int64{-1, 0, 1, 1001} {
			got, code = impl.PowerOf(x, k)
			wantWord(t, "PowerOf"+of, got, code, anError, impl.ErrInvalid)
			got, code = impl.TurnWord(x, k)
			wantWord(t, "TurnWord"+of, got, code, anError, impl.ErrInvalid)
			got, code = impl.FactorAt(x, k, k)
			wantWord(t, "FactorAt"+of, got, code, anError, impl.ErrInvalid)
			words, code := impl.FactorsOf(x, k)
			wantList(t, "FactorsOf"+of, words, code, nil, impl.ErrInvalid)
		}
	}
}

func TestProductOf(t *testing.T) {
	cases := []struct {
		w, u, want string
		code       int64
	}{
		{"ab", "ca", "abca", impl.ErrNone},
		{"", "", "", impl.ErrNone},
		{"", "ca", "ca", impl.ErrNone},
		{"ab", "", "ab", impl.ErrNone},
		{longWord(60), "", longWord(60), impl.ErrNone},
		{"", longWord(60), longWord(60), impl.ErrNone},
		{longWord(35), longWord(25), longWord(60), impl.ErrNone},
		{longWord(35), longWord(26), anError, impl.ErrLimit},
		{longWord(60), "a", anError, impl.ErrLimit},
		{"a", longWord(60), anError, impl.ErrLimit},
		{longWord(60), longWord(60), anError, impl.ErrLimit},
	}
	for _, c := range cases {
		got, code := impl.ProductOf(c.w, c.u)
		wantWord(t, fmt.Sprintf("ProductOf(%q, %q)", c.w, c.u), got, code, c.want, c.code)
	}
}

func TestPowerOf(t *testing.T) {
	cases := []struct {
		w    string
		k    int64
		want string
		code int64
	}{
		{"aba", 3, "abaabaaba", impl.ErrNone},
		{"aba", 0, "", impl.ErrNone},
		{"aba", 1, "aba", impl.ErrNone},
		{"", 0, "", impl.ErrNone},
		{"", 1000, "", impl.ErrNone},
		{"", 1001, anError, impl.ErrRange},
		{"", -1, anError, impl.ErrRange},
		{"a", 60, strings.Repeat("a", 60), impl.ErrNone},
		{"a", 61, anError, impl.ErrLimit},
		{"a", 1000, anError, impl.ErrLimit},
		{"a", 1001, anError, impl.ErrRange},
		{"abcde", 12, longWord(60), impl.ErrNone},
		{"abcde", 13, anError, impl.ErrLimit},
		{longWord(60), 0, "", impl.ErrNone},
		{longWord(60), 1, longWord(60), impl.ErrNone},
		{longWord(60), 2, anError, impl.ErrLimit},
		{longWord(31), 2, anError, impl.ErrLimit},
		{"ab", math.MaxInt64, anError, impl.ErrRange},
		{"ab", math.MinInt64, anError, impl.ErrRange},
	}
	for _, c := range cases {
		got, code := impl.PowerOf(c.w, c.k)
		wantWord(t, fmt.Sprintf("PowerOf(%q, %d)", c.w, c.k), got, code, c.want, c.code)
	}
}

func TestReverseOf(t *testing.T) {
	for w, want := range map[string]string{"": "", "a": "a", "abbc": "cbba", "abcde": "edcba", "aab": "baa"} {
		got, code := impl.ReverseOf(w)
		wantWord(t, fmt.Sprintf("ReverseOf(%q)", w), got, code, want, impl.ErrNone)
	}
	got, code := impl.ReverseOf(longWord(60))
	wantWord(t, "ReverseOf of 60 letters", got, code, strings.Repeat("edcba", 12), impl.ErrNone)
}

func TestTurnWord(t *testing.T) {
	cases := []struct {
		w    string
		k    int64
		want string
		code int64
	}{
		{"abcd", 0, "abcd", impl.ErrNone},
		{"abcd", 1, "bcda", impl.ErrNone},
		{"abcd", 3, "dabc", impl.ErrNone},
		{"abcd", 4, "abcd", impl.ErrNone},
		{"abcd", 5, anError, impl.ErrRange},
		{"abcd", -1, anError, impl.ErrRange},
		{"", 0, "", impl.ErrNone},
		{"", 1, anError, impl.ErrRange},
		{longWord(60), 60, longWord(60), impl.ErrNone},
		{longWord(60), 61, anError, impl.ErrRange},
		{"abcd", math.MaxInt64, anError, impl.ErrRange},
		{"abcd", math.MinInt64, anError, impl.ErrRange},
	}
	for _, c := range cases {
		got, code := impl.TurnWord(c.w, c.k)
		wantWord(t, fmt.Sprintf("TurnWord(%q, %d)", c.w, c.k), got, code, c.want, c.code)
	}
}

func TestRenameLetters(t *testing.T) {
	cases := []struct {
		w    string
		p    []int64
		want string
		code int64
	}{
		{"abc", []int64{1, 0, 4, 0, 0}, "bae", impl.ErrNone},
		{"abcde", []int64{4, 3, 2, 1, 0}, "edcba", impl.ErrNone},
		{"abcde", []int64{0, 0, 0, 0, 0}, "aaaaa", impl.ErrNone},
		{"abcde", []int64{0, 1, 2, 3, 4}, "abcde", impl.ErrNone},
		{"", []int64{4, 4, 4, 4, 4}, "", impl.ErrNone},
		{"abc", []int64{1, 0, 4, 0}, anError, impl.ErrRange},
		{"abc", []int64{1, 0, 4, 0, 0, 0}, anError, impl.ErrRange},
		{"abc", nil, anError, impl.ErrRange},
		{"", nil, anError, impl.ErrRange},
		{"abc", []int64{0, 1, 2, 3, 5}, anError, impl.ErrRange},
		{"abc", []int64{-1, 1, 2, 3, 4}, anError, impl.ErrRange},
		{"", []int64{0, 1, 5, 3, 4}, anError, impl.ErrRange},
		{"abc", []int64{math.MaxInt64, 1, 2, 3, 4}, anError, impl.ErrRange},
		{"abc", []int64{0, math.MinInt64, 2, 3, 4}, anError, impl.ErrRange},
		{"abc", []int64{256, 257, 258, 259, 260}, anError, impl.ErrRange},
	}
	for _, c := range cases {
		got, code := impl.RenameLetters(c.w, c.p)
		wantWord(t, fmt.Sprintf("RenameLetters(%q, %v)", c.w, c.p), got, code, c.want, c.code)
	}
}

func TestFactorAt(t *testing.T) {
	cases := []struct {
		w    string
		i, m int64
		want string
		code int64
	}{
		{"abcd", 1, 2, "bc", impl.ErrNone},
		{"abcd", 0, 4, "abcd", impl.ErrNone},
		{"abcd", 0, 0, "", impl.ErrNone},
		{"abcd", 4, 0, "", impl.ErrNone},
		{"abcd", 3, 1, "d", impl.ErrNone},
		{"", 0, 0, "", impl.ErrNone},
		{"abcd", 3, 2, anError, impl.ErrRange},
		{"abcd", 0, 5, anError, impl.ErrRange},
		{"abcd", 5, 0, anError, impl.ErrRange},
		{"abcd", 4, 1, anError, impl.ErrRange},
		{"abcd", -1, 2, anError, impl.ErrRange},
		{"abcd", 1, -1, anError, impl.ErrRange},
		{"abcd", 5, -1, anError, impl.ErrRange},
		{"", 0, 1, anError, impl.ErrRange},
		{"", 1, 0, anError, impl.ErrRange},
		{"abcd", 1, math.MaxInt64, anError, impl.ErrRange},
		{"abcd", math.MaxInt64, 1, anError, impl.ErrRange},
		{"abcd", math.MaxInt64, math.MaxInt64, anError, impl.ErrRange},
		{"abcd", math.MinInt64, math.MinInt64, anError, impl.ErrRange},
		{"abcd", math.MinInt64, 2, anError, impl.ErrRange},
		{longWord(60), 0, 60, longWord(60), impl.ErrNone},
		{longWord(60), 59, 1, "e", impl.ErrNone},
		{longWord(60), 1, 60, anError, impl.ErrRange},
	}
	for _, c := range cases {
		got, code := impl.FactorAt(c.w, c.i, c.m)
		wantWord(t, fmt.Sprintf("FactorAt(%q, %d, %d)", c.w, c.i, c.m), got, code, c.want, c.code)
	}
}

func TestPlacesOf(t *testing.T) {
	cases := []struct {
		w, u string
		want []int64
	}{
		{"abaaba", "aba", []int64{0, 3}},
		{"ababa", "aba", []int64{0, 2}},
		{"aaaa", "aa", []int64{0, 1, 2}},
		{"ab", "", []int64{0, 1, 2}},
		{"", "", []int64{0}},
		{"", "a", nil},
		{"ab", "aba", nil},
		{"ab", "c", nil},
		{"abc", "abc", []int64{0}},
		{"abc", "c", []int64{2}},
		{longWord(60), longWord(60), []int64{0}},
	}
	for _, c := range cases {
		got, code := impl.PlacesOf(c.w, c.u)
		wantList(t, fmt.Sprintf("PlacesOf(%q, %q)", c.w, c.u), got, code, c.want, impl.ErrNone)
	}
	got, code := impl.PlacesOf(longWord(60), "")
	if len(got) != 61 || code != impl.ErrNone {
		t.Errorf("the empty word is at %v, %d", got, code)
	}
}

func TestFactorsOf(t *testing.T) {
	cases := []struct {
		w    string
		m    int64
		want []string
		code int64
	}{
		{"abaab", 2, []string{"aa", "ab", "ba"}, impl.ErrNone},
		{"edcba", 1, []string{"a", "b", "c", "d", "e"}, impl.ErrNone},
		{"abaab", 0, []string{""}, impl.ErrNone},
		{"", 0, []string{""}, impl.ErrNone},
		{"", 1, nil, impl.ErrNone},
		{"ab", 2, []string{"ab"}, impl.ErrNone},
		{"ab", 3, nil, impl.ErrNone},
		{"ab", 60, nil, impl.ErrNone},
		{"ab", 61, nil, impl.ErrRange},
		{"ab", -1, nil, impl.ErrRange},
		{"", 61, nil, impl.ErrRange},
		{"ab", math.MaxInt64, nil, impl.ErrRange},
		{"ab", math.MinInt64, nil, impl.ErrRange},
		{longWord(60), 60, []string{longWord(60)}, impl.ErrNone},
		{longWord(60), 59, []string{longWord(60)[:59], longWord(60)[1:]}, impl.ErrNone},
	}
	for _, c := range cases {
		got, code := impl.FactorsOf(c.w, c.m)
		wantList(t, fmt.Sprintf("FactorsOf(%q, %d)", c.w, c.m), got, code, c.want, c.code)
	}
}

func TestCountLetters(t *testing.T) {
	cases := map[string][]int64{
		"":           {0, 0, 0, 0, 0},
		"a":          {1, 0, 0, 0, 0},
		"abaee":      {2, 1, 0, 0, 2},
		"dcd":        {0, 0, 1, 2, 0},
		longWord(60): {12, 12, 12, 12, 12},
	}
	for w, want := range cases {
		got, code := impl.CountLetters(w)
		wantList(t, fmt.Sprintf("CountLetters(%q)", w), got, code, want, impl.ErrNone)
	}
}

func TestCommonBeginningAndEnd(t *testing.T) {
	cases := []struct{ w, u, beginning, end string }{
		{"abca", "abb", "ab", ""},
		{"abca", "bca", "", "bca"},
		{"abcab", "abab", "ab", "ab"},
		{"", "", "", ""},
		{"", "ab", "", ""},
		{"aaa", "aa", "aa", "aa"},
		{"abc", "abc", "abc", "abc"},
		{"ab", "abab", "ab", "ab"},
		{"abac", "abcc", "ab", "c"},
		{"abc", "dbe", "", ""},
		{longWord(60), longWord(60), longWord(60), longWord(60)},
	}
	for _, c := range cases {
		for _, pair := range [][2]string{{c.w, c.u}, {c.u, c.w}} {
			of := fmt.Sprintf("(%q, %q)", pair[0], pair[1])
			got, code := impl.CommonBeginning(pair[0], pair[1])
			wantWord(t, "CommonBeginning"+of, got, code, c.beginning, impl.ErrNone)
			got, code = impl.CommonEnd(pair[0], pair[1])
			wantWord(t, "CommonEnd"+of, got, code, c.end, impl.ErrNone)
		}
	}
}

func TestIsScattered(t *testing.T) {
	cases := []struct {
		w, u string
		want bool
	}{
		{"aca", "abcba", true},
		{"", "", true},
		{"", "ab", true},
		{"a", "", false},
		{"ba", "ab", false},
		{"aa", "ab", false},
		{"ab", "ab", true},
		{"abc", "ab", false},
		{"cab", "abcab", true},
		{longWord(60), longWord(60), true},
		{strings.Repeat("a", 13), longWord(60), false},
		{strings.Repeat("a", 12), longWord(60), true},
	}
	for _, c := range cases {
		got, code := impl.IsScattered(c.w, c.u)
		wantAnswer(t, fmt.Sprintf("IsScattered(%q, %q)", c.w, c.u), got, code, c.want, impl.ErrNone)
	}
}

func TestCountScattered(t *testing.T) {
	cases := []struct {
		w, u string
		want int64
		code int64
	}{
		{"ab", "aabb", 4, impl.ErrNone},
		{"aa", "aaa", 3, impl.ErrNone},
		{"aba", "abaaba", 6, impl.ErrNone},
		{"", "aabb", 1, impl.ErrNone},
		{"", "", 1, impl.ErrNone},
		{"a", "", 0, impl.ErrNone},
		{"ba", "ab", 0, impl.ErrNone},
		{"abcabc", "abcabc", 1, impl.ErrNone},
		{"aaaaaa", strings.Repeat("a", 60), 50063860, impl.ErrNone},
		{"aaaaaaa", strings.Repeat("a", 60), 0, impl.ErrRange},
		{"abcabca", "", 0, impl.ErrRange},
		{longWord(60), longWord(60), 0, impl.ErrRange},
	}
	for _, c := range cases {
		got, code := impl.CountScattered(c.w, c.u)
		wantNumber(t, fmt.Sprintf("CountScattered(%q, %q)", c.w, c.u), got, code, c.want, c.code)
	}
}

// setsOfPlaces counts the sets of places at which w is scattered in u, one set after the other.
func setsOfPlaces(w string, u string) int64 {
	count := int64(0)
	for set := range 1 << len(u) {
		var chosen []byte
		for i := range len(u) {
			if set>>i&1 == 1 {
				chosen = append(chosen, u[i])
			}
		}
		if string(chosen) == w {
			count++
		}
	}
	return count
}

func TestScatteredAgainstSets(t *testing.T) {
	for _, w := range allWords(4, 2) {
		for _, u := range append(allWords(5, 2), "abcacb", "cabbac") {
			sets := setsOfPlaces(w, u)
			of := fmt.Sprintf("(%q, %q)", w, u)
			n, code := impl.CountScattered(w, u)
			wantNumber(t, "CountScattered"+of, n, code, sets, impl.ErrNone)
			yes, code := impl.IsScattered(w, u)
			wantAnswer(t, "IsScattered"+of, yes, code, sets > 0, impl.ErrNone)
		}
	}
}

func TestCompareWords(t *testing.T) {
	cases := []struct {
		w, u string
		want int64
	}{
		{"ab", "aba", -1},
		{"aba", "ab", 1},
		{"ab", "ab", 0},
		{"", "", 0},
		{"", "a", -1},
		{"b", "aaaa", 1},
		{"aab", "ab", -1},
		{"abe", "aca", -1},
		{longWord(60), longWord(59), 1},
	}
	for _, c := range cases {
		got, code := impl.CompareWords(c.w, c.u)
		wantNumber(t, fmt.Sprintf("CompareWords(%q, %q)", c.w, c.u), got, code, c.want, impl.ErrNone)
	}
}

func TestCompareWordsIsAnOrder(t *testing.T) {
	sorted := allWords(4, 3)
	sort.Strings(sorted)
	for i, w := range sorted {
		for j, u := range sorted {
			want := int64(0)
			if i < j {
				want = -1
			} else if i > j {
				want = 1
			}
			got, code := impl.CompareWords(w, u)
			wantNumber(t, fmt.Sprintf("CompareWords(%q, %q)", w, u), got, code, want, impl.ErrNone)
		}
	}
}

func TestWordsOf(t *testing.T) {
	cases := []struct {
		m, k int64
		want []string
	}{
		{2, 2, []string{"aa", "ab", "ba", "bb"}},
		{1, 5, []string{"a", "b", "c", "d", "e"}},
		{2, 3, []string{"aa", "ab", "ac", "ba", "bb", "bc", "ca", "cb", "cc"}},
		{0, 1, []string{""}},
		{0, 5, []string{""}},
		{3, 1, []string{"aaa"}},
		{60, 1, []string{strings.Repeat("a", 60)}},
	}
	for _, c := range cases {
		got, code := impl.WordsOf(c.m, c.k)
		wantList(t, fmt.Sprintf("WordsOf(%d, %d)", c.m, c.k), got, code, c.want, impl.ErrNone)
	}
}

func TestWordsOfLimits(t *testing.T) {
	for _, c := range [][3]int64{{8, 2, 256}, {7, 2, 128}, {5, 3, 243}, {4, 4, 256}, {3, 5, 125}} {
		got, code := impl.WordsOf(c[0], c[1])
		want := slices.DeleteFunc(allWords(int(c[0]), int(c[1])), func(w string) bool { return int64(len(w)) != c[0] })
		sort.Strings(want)
		wantList(t, fmt.Sprintf("WordsOf(%d, %d)", c[0], c[1]), got, code, want, impl.ErrNone)
		if int64(len(got)) != c[2] {
			t.Errorf("WordsOf(%d, %d) has %d words", c[0], c[1], len(got))
		}
	}
	for _, c := range [][3]int64{
		{9, 2, impl.ErrLimit}, {6, 3, impl.ErrLimit}, {5, 4, impl.ErrLimit}, {4, 5, impl.ErrLimit}, {60, 2, impl.ErrLimit}, {60, 5, impl.ErrLimit},
		{61, 1, impl.ErrRange}, {61, 5, impl.ErrRange}, {-1, 1, impl.ErrRange}, {2, 0, impl.ErrRange}, {2, 6, impl.ErrRange}, {0, 0, impl.ErrRange}, {0, 6, impl.ErrRange}, {60, 6, impl.ErrRange},
		{math.MaxInt64, 1, impl.ErrRange}, {math.MinInt64, 1, impl.ErrRange}, {1, math.MaxInt64, impl.ErrRange}, {1, math.MinInt64, impl.ErrRange},
	} {
		got, code := impl.WordsOf(c[0], c[1])
		wantList(t, fmt.Sprintf("WordsOf(%d, %d)", c[0], c[1]), got, code, nil, c[2])
	}
}

func TestLettersOf(t *testing.T) {
	for w, want := range map[string][]int64{"": nil, "a": {0}, "ace": {0, 2, 4}, "edcba": {4, 3, 2, 1, 0}, "bb": {1, 1}} {
		got, code := impl.LettersOf(w)
		wantList(t, fmt.Sprintf("LettersOf(%q)", w), got, code, want, impl.ErrNone)
	}
}

func TestWordOfLetters(t *testing.T) {
	cases := []struct {
		list []int64
		want string
		code int64
	}{
		{[]int64{0, 2, 4}, "ace", impl.ErrNone},
		{[]int64{4, 3, 2, 1, 0}, "edcba", impl.ErrNone},
		{nil, "", impl.ErrNone},
		{[]int64{}, "", impl.ErrNone},
		{make([]int64, 60), strings.Repeat("a", 60), impl.ErrNone},
		{make([]int64, 61), anError, impl.ErrRange},
		{[]int64{5}, anError, impl.ErrRange},
		{[]int64{-1}, anError, impl.ErrRange},
		{[]int64{0, 1, 5}, anError, impl.ErrRange},
		{[]int64{256}, anError, impl.ErrRange},
		{[]int64{math.MaxInt64}, anError, impl.ErrRange},
		{[]int64{math.MinInt64}, anError, impl.ErrRange},
	}
	for _, c := range cases {
		got, code := impl.WordOfLetters(c.list)
		wantWord(t, fmt.Sprintf("WordOfLetters(%v)", c.list), got, code, c.want, c.code)
	}
}

// replacedWord makes the word with a name as the chapter tells it: all its letters are replaced, again and again.
func replacedWord(images map[rune]string) string {
	word := "a"
	for len(word) < 60 {
		next := ""
		for _, letter := range word {
			next += images[letter]
		}
		word = next
	}
	return word[:60]
}

func TestNamedWord(t *testing.T) {
	words := map[string]string{
		"fibonacci": replacedWord(map[rune]string{'a': "ab", 'b': "a"}),
		"thue":      replacedWord(map[rune]string{'a': "ab", 'b': "ba"}),
		"doubling":  replacedWord(map[rune]string{'a': "ab", 'b': "aa"}),
		"triple":    replacedWord(map[rune]string{'a': "abc", 'b': "ac", 'c': "b"}),
	}
	for name, want := range words {
		for m := range int64(61) {
			got, code := impl.NamedWord(name, m)
			wantWord(t, fmt.Sprintf("NamedWord(%q, %d)", name, m), got, code, want[:m], impl.ErrNone)
		}
		for _, m := range []int64{-1, 61, math.MaxInt64, math.MinInt64} {
			got, code := impl.NamedWord(name, m)
			wantWord(t, fmt.Sprintf("NamedWord(%q, %d)", name, m), got, code, anError, impl.ErrRange)
		}
	}
	got, code := impl.NamedWord("fibonacci", 8)
	wantWord(t, "the example", got, code, "abaababa", impl.ErrNone)
}

func TestNamedWordWithoutName(t *testing.T) {
	for _, name := range []string{"golden", "", "Thue", "thue ", "tripl", "ab", "\xff"} {
		for m, want := range map[int64]int64{0: impl.ErrNotFound, 3: impl.ErrNotFound, 60: impl.ErrNotFound, 61: impl.ErrRange, -1: impl.ErrRange} {
			got, code := impl.NamedWord(name, m)
			wantWord(t, fmt.Sprintf("NamedWord(%q, %d)", name, m), got, code, anError, want)
		}
	}
}

// Promise 1: products do not depend on brackets. If one of the products has no value, the whole has none either.
func TestPromiseProductsWithoutBrackets(t *testing.T) {
	words := append(allWords(2, 3), longWord(20), longWord(21), strings.Repeat("ab", 10), longWord(58), longWord(59), longWord(60))
	for _, w := range words {
		for _, u := range words {
			for _, v := range words {
				left, leftCode := productOfThree(w, u, v, true)
				right, rightCode := productOfThree(w, u, v, false)
				want, wantCode := w+u+v, int64(impl.ErrNone)
				if len(want) > impl.MaxWord {
					want, wantCode = anError, impl.ErrLimit
				}
				of := fmt.Sprintf("%q, %q, %q", w, u, v)
				wantWord(t, "the first two of "+of+" first", left, leftCode, want, wantCode)
				wantWord(t, "the last two of "+of+" first", right, rightCode, want, wantCode)
			}
		}
	}
}

// productOfThree multiplies three words, with the first two or the last two in brackets.
func productOfThree(w string, u string, v string, first bool) (string, int64) {
	if first {
		wu, code := impl.ProductOf(w, u)
		if code != impl.ErrNone {
			return wu, code
		}
		return impl.ProductOf(wu, v)
	}
	uv, code := impl.ProductOf(u, v)
	if code != impl.ErrNone {
		return uv, code
	}
	return impl.ProductOf(w, uv)
}

// Promise 1: words reversed twice are the words. Reversed once, they have the opposite order, and products turn round.
func TestPromiseReversedTwice(t *testing.T) {
	for _, w := range mixedWords() {
		once, code := impl.ReverseOf(w)
		if code != impl.ErrNone || len(once) != len(w) {
			t.Fatalf("ReverseOf(%q) = %q, %d", w, once, code)
		}
		for i := range len(w) {
			if once[i] != w[len(w)-1-i] {
				t.Errorf("ReverseOf(%q) = %q", w, once)
			}
		}
		twice, code := impl.ReverseOf(once)
		wantWord(t, fmt.Sprintf("%q reversed twice", w), twice, code, w, impl.ErrNone)
	}
	for _, w := range allWords(3, 3) {
		for _, u := range allWords(3, 3) {
			whole, _ := impl.ReverseOf(product(t, w, u))
			back, _ := impl.ReverseOf(w)
			ahead, _ := impl.ReverseOf(u)
			wantWord(t, "the product of reversed words", product(t, ahead, back), impl.ErrNone, whole, impl.ErrNone)
		}
	}
}

// Promise 1: words come back from their letters, and letters from their words.
func TestPromiseWordsFromLetters(t *testing.T) {
	for _, w := range append(mixedWords(), allWords(3, 5)...) {
		letters, code := impl.LettersOf(w)
		if code != impl.ErrNone || len(letters) != len(w) {
			t.Fatalf("LettersOf(%q) = %v, %d", w, letters, code)
		}
		back, code := impl.WordOfLetters(letters)
		wantWord(t, fmt.Sprintf("WordOfLetters(%v)", letters), back, code, w, impl.ErrNone)
		again, code := impl.LettersOf(back)
		wantList(t, fmt.Sprintf("LettersOf(%q)", back), again, code, letters, impl.ErrNone)
	}
}

// The guarantee: factors stand at their places, and words stand at no others.
func TestGuaranteeFactorsAtPlaces(t *testing.T) {
	for _, w := range append(allWords(5, 2), "abcabcab", "edcbaedcba", longWord(60)) {
		n := int64(len(w))
		for m := range n + 2 {
			different := map[string]bool{}
			for i := int64(0); i+m <= n; i++ {
				different[w[i:i+m]] = true
			}
			factors, code := impl.FactorsOf(w, m)
			if code != impl.ErrNone && m <= impl.MaxWord || len(factors) != len(different) || !slices.IsSorted(factors) {
				t.Errorf("FactorsOf(%q, %d) = %v, %d", w, m, factors, code)
			}
			for _, u := range factors {
				placesAreRight(t, w, u)
			}
		}
	}
}

// placesAreRight looks at the places of w at which u is, and whether all others have something else.
func placesAreRight(t *testing.T, w string, u string) {
	t.Helper()
	places, code := impl.PlacesOf(w, u)
	if code != impl.ErrNone || len(places) == 0 || !slices.IsSorted(places) {
		t.Errorf("PlacesOf(%q, %q) = %v, %d", w, u, places, code)
	}
	for i := int64(0); i+int64(len(u)) <= int64(len(w)); i++ {
		factor, code := impl.FactorAt(w, i, int64(len(u)))
		if code != impl.ErrNone || (factor == u) != slices.Contains(places, i) {
			t.Errorf("PlacesOf(%q, %q) = %v, but at %d is %q, %d", w, u, places, i, factor, code)
		}
	}
}

func TestPowersAreProducts(t *testing.T) {
	for _, w := range allWords(3, 3) {
		power := ""
		for k := range int64(7) {
			got, code := impl.PowerOf(w, k)
			wantWord(t, fmt.Sprintf("PowerOf(%q, %d)", w, k), got, code, power, impl.ErrNone)
			power = product(t, power, w)
		}
	}
}

func TestTurnedWordsAreProducts(t *testing.T) {
	for _, w := range mixedWords() {
		n := int64(len(w))
		for k := range n + 1 {
			beginning, _ := impl.FactorAt(w, 0, k)
			rest, _ := impl.FactorAt(w, k, n-k)
			turned, code := impl.TurnWord(w, k)
			wantWord(t, fmt.Sprintf("TurnWord(%q, %d)", w, k), turned, code, product(t, rest, beginning), impl.ErrNone)
			back, code := impl.TurnWord(turned, n-k)
			wantWord(t, fmt.Sprintf("TurnWord(%q, %d)", turned, n-k), back, code, w, impl.ErrNone)
		}
	}
}

func TestCommonParts(t *testing.T) {
	words := allWords(4, 2)
	for _, w := range words {
		for _, u := range words {
			beginning, code := impl.CommonBeginning(w, u)
			n := len(beginning)
			longer := n < len(w) && n < len(u) && w[n] == u[n]
			if code != impl.ErrNone || !strings.HasPrefix(w, beginning) || !strings.HasPrefix(u, beginning) || longer {
				t.Errorf("CommonBeginning(%q, %q) = %q, %d", w, u, beginning, code)
			}
			back, _ := impl.ReverseOf(w)
			ahead, _ := impl.ReverseOf(u)
			common, _ := impl.CommonBeginning(back, ahead)
			want, _ := impl.ReverseOf(common)
			end, code := impl.CommonEnd(w, u)
			wantWord(t, fmt.Sprintf("CommonEnd(%q, %q)", w, u), end, code, want, impl.ErrNone)
		}
	}
}

// Lists that are given stay as they are, with what stands behind their ends.
func TestListsAreNotChanged(t *testing.T) {
	given := []int64{1, 0, 4, 3, 2, 7, 8, 9}
	kept := slices.Clone(given)
	for range 2 {
		got, code := impl.RenameLetters("abcde", given[:5])
		wantWord(t, "RenameLetters", got, code, "baedc", impl.ErrNone)
		got, code = impl.WordOfLetters(given[:5])
		wantWord(t, "WordOfLetters", got, code, "baedc", impl.ErrNone)
		if !slices.Equal(given, kept) {
			t.Fatalf("the list has become %v", given)
		}
	}
}

// What a caller does with a result, and with what stands behind its end, changes no later result.
func TestResultsAreNew(t *testing.T) {
	lists := map[string]func() ([]int64, int64){
		"PlacesOf":     func() ([]int64, int64) { return impl.PlacesOf("abaaba", "aba") },
		"CountLetters": func() ([]int64, int64) { return impl.CountLetters("abaee") },
		"LettersOf":    func() ([]int64, int64) { return impl.LettersOf("ace") },
	}
	for name, call := range lists {
		resultsAreNew(t, name, call, 77)
	}
	words := map[string]func() ([]string, int64){
		"FactorsOf": func() ([]string, int64) { return impl.FactorsOf("abaab", 2) },
		"WordsOf":   func() ([]string, int64) { return impl.WordsOf(2, 2) },
		"WordsOf 0": func() ([]string, int64) { return impl.WordsOf(0, 2) },
	}
	for name, call := range words {
		resultsAreNew(t, name, call, "x")
	}
}

func resultsAreNew[T comparable](t *testing.T, name string, call func() ([]T, int64), mark T) {
	t.Helper()
	first, code := call()
	if code != impl.ErrNone || len(first) == 0 {
		t.Fatalf("%s = %v, %d", name, first, code)
	}
	kept := slices.Clone(first)
	whole := first[:cap(first)]
	for i := range whole {
		whole[i] = mark
	}
	again, code := call()
	wantList(t, name+", once more", again, code, kept, impl.ErrNone)
}
