package tests

import (
	"cmp"
	"fmt"
	"slices"
	"strings"
	"testing"

	"loop.example/g01371/impl"
)

// backwards returns the letters of w in the opposite order.
func backwards(w string) string {
	letters := ""
	for _, letter := range w {
		letters = string(letter) + letters
	}
	return letters
}

// palindromesAsDefined returns all different palindromic factors of w with at least one letter, shorter ones first, and how many
// places and lengths they have.
func palindromesAsDefined(w string) ([]string, int64) {
	var all []string
	for from := range w {
		for to := from + 1; to <= len(w); to++ {
			if w[from:to] == backwards(w[from:to]) {
				all = append(all, w[from:to])
			}
		}
	}
	count := int64(len(all))
	slices.SortFunc(all, func(x string, y string) int {
		return cmp.Or(len(x)-len(y), strings.Compare(x, y))
	})
	return slices.Compact(all), count
}

// closureAsDefined returns the shortest palindrome that begins with w, looked for by its length.
func closureAsDefined(w string) string {
	for length := len(w); ; length++ {
		letters := []byte(w + strings.Repeat("?", length-len(w)))
		for i := len(w); i < length; i++ {
			letters[i] = letters[length-1-i]
		}
		if closure := string(letters); closure == backwards(closure) {
			return closure
		}
	}
}

// isClosing reports whether the first b letters of w are its last ones and stand nowhere else in it.
func isClosing(w string, b int) bool {
	places := 0
	for i := 0; i+b <= len(w); i++ {
		if w[i:i+b] == w[:b] {
			places++
		}
	}
	return w[:b] == w[len(w)-b:] && places == 2
}

// closedAsDefined reports whether w is closed, looking at all borders.
func closedAsDefined(w string) bool {
	for b := 1; b < len(w); b++ {
		if isClosing(w, b) {
			return true
		}
	}
	return len(w) <= 1
}

// privilegedAsDefined reports whether w is privileged, looking at all borders.
func privilegedAsDefined(w string) bool {
	for b := 1; b < len(w); b++ {
		if isClosing(w, b) && privilegedAsDefined(w[:b]) {
			return true
		}
	}
	return len(w) <= 1
}

// palindromicWords are words of several lengths with many palindromes, with few, and with none of more than one letter.
func palindromicWords() []string {
	return append(periodicWords(), "abca", "abcacba", "cabba", "eabcbaed", "aabbaabbcc", "abbaabaaab", "abcbabcba",
		"aababbaabab", "edcbabcde", "abacabadabacabaeabacabadabacaba", "abccbadeedabccba", "aaabaaabaaa", strings.Repeat("abba", 15))
}

// Each function refuses each string that is not a word; ErrInvalid comes before ErrLimit.
func TestWordsWithPalindromesAreAsked(t *testing.T) {
	for _, w := range append(notWords, strings.Repeat("ab", 31), strings.Repeat("a", 60)+"f", "f"+strings.Repeat("ab", 29)) {
		of := fmt.Sprintf("(%q)", w)
		yes, code := impl.IsPalindrome(w)
		wantAnswer(t, "IsPalindrome"+of, yes, code, false, impl.ErrInvalid)
		words, code := impl.PalindromesOf(w)
		wantList(t, "PalindromesOf"+of, words, code, nil, impl.ErrInvalid)
		n, code := impl.CountPalindromes(w)
		wantNumber(t, "CountPalindromes"+of, n, code, 0, impl.ErrInvalid)
		n, code = impl.DefectOf(w)
		wantNumber(t, "DefectOf"+of, n, code, 0, impl.ErrInvalid)
		longest, place, code := impl.LongestPalindrome(w)
		wantWordAndNumber(t, "LongestPalindrome"+of, longest, place, code, anError, 0, impl.ErrInvalid)
		list, code := impl.EndLengths(w)
		wantList(t, "EndLengths"+of, list, code, nil, impl.ErrInvalid)
		words, code = impl.FewestParts(w)
		wantList(t, "FewestParts"+of, words, code, nil, impl.ErrInvalid)
		closure, code := impl.ClosureOf(w)
		wantWord(t, "ClosureOf"+of, closure, code, anError, impl.ErrInvalid)
		directed, code := impl.DirectedWord(w)
		wantWord(t, "DirectedWord"+of, directed, code, anError, impl.ErrInvalid)
		yes, code = impl.IsClosedWord(w)
		wantAnswer(t, "IsClosedWord"+of, yes, code, false, impl.ErrInvalid)
		yes, code = impl.IsPrivileged(w)
		wantAnswer(t, "IsPrivileged"+of, yes, code, false, impl.ErrInvalid)
		closed, privileged, code := impl.CountClosed(w)
		wantList(t, "CountClosed"+of, []int64{closed, privileged}, code, []int64{0, 0}, impl.ErrInvalid)
	}
}

func TestPalindromesOfTheEmptyWord(t *testing.T) {
	yes, code := impl.IsPalindrome("")
	wantAnswer(t, `IsPalindrome("")`, yes, code, true, impl.ErrNone)
	words, code := impl.PalindromesOf("")
	wantList(t, `PalindromesOf("")`, words, code, nil, impl.ErrNone)
	n, code := impl.CountPalindromes("")
	wantNumber(t, `CountPalindromes("")`, n, code, 0, impl.ErrNone)
	n, code = impl.DefectOf("")
	wantNumber(t, `DefectOf("")`, n, code, 0, impl.ErrNone)
	longest, place, code := impl.LongestPalindrome("")
	wantWordAndNumber(t, `LongestPalindrome("")`, longest, place, code, anError, 0, impl.ErrState)
	list, code := impl.EndLengths("")
	wantList(t, `EndLengths("")`, list, code, nil, impl.ErrNone)
	words, code = impl.FewestParts("")
	wantList(t, `FewestParts("")`, words, code, nil, impl.ErrNone)
	closure, code := impl.ClosureOf("")
	wantWord(t, `ClosureOf("")`, closure, code, "", impl.ErrNone)
	directed, code := impl.DirectedWord("")
	wantWord(t, `DirectedWord("")`, directed, code, "", impl.ErrNone)
	yes, code = impl.IsClosedWord("")
	wantAnswer(t, `IsClosedWord("")`, yes, code, true, impl.ErrNone)
	yes, code = impl.IsPrivileged("")
	wantAnswer(t, `IsPrivileged("")`, yes, code, true, impl.ErrNone)
	closed, privileged, code := impl.CountClosed("")
	wantList(t, `CountClosed("")`, []int64{closed, privileged}, code, []int64{0, 0}, impl.ErrNone)
}

func TestPalindromesOfOneLetter(t *testing.T) {
	for _, w := range []string{"a", "b", "c", "d", "e"} {
		of := fmt.Sprintf("(%q)", w)
		yes, code := impl.IsPalindrome(w)
		wantAnswer(t, "IsPalindrome"+of, yes, code, true, impl.ErrNone)
		words, code := impl.PalindromesOf(w)
		wantList(t, "PalindromesOf"+of, words, code, []string{w}, impl.ErrNone)
		n, code := impl.CountPalindromes(w)
		wantNumber(t, "CountPalindromes"+of, n, code, 1, impl.ErrNone)
		n, code = impl.DefectOf(w)
		wantNumber(t, "DefectOf"+of, n, code, 0, impl.ErrNone)
		longest, place, code := impl.LongestPalindrome(w)
		wantWordAndNumber(t, "LongestPalindrome"+of, longest, place, code, w, 0, impl.ErrNone)
		list, code := impl.EndLengths(w)
		wantList(t, "EndLengths"+of, list, code, []int64{1}, impl.ErrNone)
		words, code = impl.FewestParts(w)
		wantList(t, "FewestParts"+of, words, code, []string{w}, impl.ErrNone)
		closure, code := impl.ClosureOf(w)
		wantWord(t, "ClosureOf"+of, closure, code, w, impl.ErrNone)
		directed, code := impl.DirectedWord(w)
		wantWord(t, "DirectedWord"+of, directed, code, w, impl.ErrNone)
		yes, code = impl.IsClosedWord(w)
		wantAnswer(t, "IsClosedWord"+of, yes, code, true, impl.ErrNone)
		yes, code = impl.IsPrivileged(w)
		wantAnswer(t, "IsPrivileged"+of, yes, code, true, impl.ErrNone)
		closed, privileged, code := impl.CountClosed(w)
		wantList(t, "CountClosed"+of, []int64{closed, privileged}, code, []int64{1, 1}, impl.ErrNone)
	}
}

func TestIsPalindrome(t *testing.T) {
	cases := map[string]bool{
		"aa": true, "ab": false, "aba": true, "abb": false, "abba": true, "abab": false, "abcba": true, "abcab": false, "abccba": true,
		"abcdba": false, "edcde": true, strings.Repeat("a", 60): true, strings.Repeat("a", 59) + "b": false, strings.Repeat("ab", 30): false,
		strings.Repeat("ab", 29) + "a": true, strings.Repeat("abba", 15): true,
		longWord(30) + backwards(longWord(30)): true, longWord(29) + "aa" + backwards(longWord(29)): true, longWord(29) + "ab" + backwards(longWord(29)): false,
	}
	for w, want := range cases {
		got, code := impl.IsPalindrome(w)
		wantAnswer(t, fmt.Sprintf("IsPalindrome(%q)", w), got, code, want, impl.ErrNone)
	}
}

func TestPalindromesOf(t *testing.T) {
	cases := map[string][]string{
		"abca":                  {"a", "b", "c"},
		"cba":                   {"a", "b", "c"},
		"aab":                   {"a", "b", "aa"},
		"bbaa":                  {"a", "b", "aa", "bb"},
		"cabba":                 {"a", "b", "c", "bb", "abba"},
		"abaab":                 {"a", "b", "aa", "aba", "baab"},
		"aaaa":                  {"a", "aa", "aaa", "aaaa"},
		"babab":                 {"a", "b", "aba", "bab", "babab"},
		longWord(60):            {"a", "b", "c", "d", "e"},
		"ebedeb":                {"b", "d", "e", "ebe", "ede", "bedeb"},
		strings.Repeat("ab", 3): {"a", "b", "aba", "bab", "ababa", "babab"},
	}
	for w, want := range cases {
		got, code := impl.PalindromesOf(w)
		wantList(t, fmt.Sprintf("PalindromesOf(%q)", w), got, code, want, impl.ErrNone)
	}
}

func TestCountPalindromesAndDefect(t *testing.T) {
	cases := []struct {
		w             string
		count, defect int64
	}{
		{"aab", 4, 0},
		{"abca", 4, 1},
		{"aaaa", 10, 0},
		{"abab", 6, 0},
		{"abcabc", 6, 3},
		{"abba", 6, 0},
		{"aabbaab", 13, 0},
		{"aababbaa", 14, 1},
		{longWord(5), 5, 0},
		{longWord(60), 60, 55},
		{strings.Repeat("a", 60), 1830, 0},
		{strings.Repeat("ab", 30), 930, 0},
	}
	for _, c := range cases {
		of := fmt.Sprintf("(%q)", c.w)
		count, code := impl.CountPalindromes(c.w)
		wantNumber(t, "CountPalindromes"+of, count, code, c.count, impl.ErrNone)
		defect, code := impl.DefectOf(c.w)
		wantNumber(t, "DefectOf"+of, defect, code, c.defect, impl.ErrNone)
	}
}

func TestPalindromesAsDefined(t *testing.T) {
	for _, w := range palindromicWords() {
		of := fmt.Sprintf("(%q)", w)
		words, count := palindromesAsDefined(w)
		yes, code := impl.IsPalindrome(w)
		wantAnswer(t, "IsPalindrome"+of, yes, code, w == backwards(w), impl.ErrNone)
		got, code := impl.PalindromesOf(w)
		wantList(t, "PalindromesOf"+of, got, code, words, impl.ErrNone)
		n, code := impl.CountPalindromes(w)
		wantNumber(t, "CountPalindromes"+of, n, code, count, impl.ErrNone)
		n, code = impl.DefectOf(w)
		wantNumber(t, "DefectOf"+of, n, code, int64(len(w)-len(words)), impl.ErrNone)
	}
}

// Promise 4: palindromic factors are palindromes. They are factors of the word, and stay the same reversed, as chapter 1 has it.
func TestPromisePalindromicFactorsArePalindromes(t *testing.T) {
	for _, w := range palindromicWords() {
		words, code := impl.PalindromesOf(w)
		if code != impl.ErrNone || w != "" && len(words) == 0 {
			t.Fatalf("PalindromesOf(%q) = %v, %d", w, words, code)
		}
		if longest, _, code := impl.LongestPalindrome(w); code == impl.ErrNone {
			words = append(words, longest)
		}
		for _, word := range words {
			reversed, code := impl.ReverseOf(word)
			wantWord(t, fmt.Sprintf("%q, told of %q, reversed", word, w), reversed, code, word, impl.ErrNone)
			yes, code := impl.IsPalindrome(word)
			wantAnswer(t, fmt.Sprintf("IsPalindrome(%q)", word), yes, code, true, impl.ErrNone)
			if places, _ := impl.PlacesOf(w, word); word == "" || len(places) == 0 {
				t.Errorf("%q is told of %q, and is none of its factors of at least one letter", word, w)
			}
		}
	}
}

// The guarantee: each letter more at the end adds at most one palindromic factor.
func TestGuaranteeLettersAddOnePalindrome(t *testing.T) {
	for _, w := range palindromicWords() {
		before, defect := []string{}, int64(0)
		for i := range w {
			words, code := impl.PalindromesOf(w[:i+1])
			more := slices.DeleteFunc(slices.Clone(words), func(word string) bool { return slices.Contains(before, word) })
			if code != impl.ErrNone || len(more) > 1 || len(words) != len(before)+len(more) {
				t.Errorf("PalindromesOf(%q) = %v, %d, with one letter less %v", w[:i+1], words, code, before)
			}
			less := defect
			defect, _ = impl.DefectOf(w[:i+1])
			if defect != less+1-int64(len(more)) {
				t.Errorf("DefectOf(%q) = %d, with one letter less %d", w[:i+1], defect, less)
			}
			before = words
		}
	}
}

func TestLongestPalindrome(t *testing.T) {
	cases := []struct {
		w, want string
		place   int64
	}{
		{"cabba", "abba", 1},
		// Of palindromes of the same length the first one is that which begins first.
		{"ba", "b", 0},
		{"abca", "a", 0},
		{"bbaa", "bb", 0},
		{"cbcaba", "cbc", 0},
		{"dcbcaba", "cbc", 1},
		{"abaab", "baab", 1},
		{"aaaa", "aaaa", 0},
		{"abcdedcb", "bcdedcb", 1},
		{"abab", "aba", 0},
		{longWord(60), "a", 0},
		{strings.Repeat("ab", 30), strings.Repeat("ab", 29) + "a", 0},
		{"b" + strings.Repeat("a", 59), strings.Repeat("a", 59), 1},
		{longWord(58) + "dd", "dd", 58},
		{strings.Repeat("a", 60), strings.Repeat("a", 60), 0},
	}
	for _, c := range cases {
		got, place, code := impl.LongestPalindrome(c.w)
		wantWordAndNumber(t, fmt.Sprintf("LongestPalindrome(%q)", c.w), got, place, code, c.want, c.place, impl.ErrNone)
	}
}

func TestLongestPalindromeAsDefined(t *testing.T) {
	for _, w := range palindromicWords() {
		if w == "" {
			continue
		}
		longest, place := "", 0
		for from := range w {
			for to := from + 1; to <= len(w); to++ {
				if w[from:to] == backwards(w[from:to]) && to-from > len(longest) {
					longest, place = w[from:to], from
				}
			}
		}
		got, at, code := impl.LongestPalindrome(w)
		wantWordAndNumber(t, fmt.Sprintf("LongestPalindrome(%q)", w), got, at, code, longest, int64(place), impl.ErrNone)
	}
}

func TestEndLengths(t *testing.T) {
	cases := map[string][]int64{
		"abaa":   {1, 1, 3, 2},
		"aaaa":   {1, 2, 3, 4},
		"abca":   {1, 1, 1, 1},
		"abba":   {1, 1, 2, 4},
		"ababab": {1, 1, 3, 3, 5, 5},
		"cabbac": {1, 1, 1, 2, 4, 6},
		"aab":    {1, 2, 1},
	}
	for w, want := range cases {
		got, code := impl.EndLengths(w)
		wantList(t, fmt.Sprintf("EndLengths(%q)", w), got, code, want, impl.ErrNone)
	}
}

func TestEndLengthsAsDefined(t *testing.T) {
	for _, w := range palindromicWords() {
		var want []int64
		for i := range w {
			longest := 0
			for m := 1; m <= i+1; m++ {
				if end := w[i+1-m : i+1]; end == backwards(end) {
					longest = m
				}
			}
			want = append(want, int64(longest))
		}
		got, code := impl.EndLengths(w)
		wantList(t, fmt.Sprintf("EndLengths(%q)", w), got, code, want, impl.ErrNone)
	}
}

func TestFewestParts(t *testing.T) {
	cases := map[string][]string{
		"abaab":                        {"a", "baab"},
		"abba":                         {"abba"},
		"ab":                           {"a", "b"},
		"aab":                          {"aa", "b"},
		"abb":                          {"a", "bb"},
		"abca":                         {"a", "b", "c", "a"},
		"abab":                         {"aba", "b"},
		"ababab":                       {"ababa", "b"},
		"aabaab":                       {"aabaa", "b"},
		"abbaabaaab":                   {"abba", "a", "baaab"},
		"aabbaabb":                     {"aabbaa", "bb"},
		"aaab":                         {"aaa", "b"},
		"abacdcb":                      {"aba", "cdc", "b"},
		strings.Repeat("a", 60):        {strings.Repeat("a", 60)},
		strings.Repeat("ab", 30):       {strings.Repeat("ab", 29) + "a", "b"},
		"b" + strings.Repeat("a", 59):  {"b", strings.Repeat("a", 59)},
		longWord(5):                    {"a", "b", "c", "d", "e"},
		longWord(58) + "dd":            append(strings.Split(longWord(58), ""), "dd"),
		longWord(60):                   strings.Split(longWord(60), ""),
		strings.Repeat("abba", 15):     {strings.Repeat("abba", 15)},
		"e" + strings.Repeat("ab", 29): {"e", strings.Repeat("ab", 28) + "a", "b"},
	}
	for w, want := range cases {
		got, code := impl.FewestParts(w)
		wantList(t, fmt.Sprintf("FewestParts(%q)", w), got, code, want, impl.ErrNone)
	}
}

// allParts returns all lists of palindromic parts of a word, those with a longer first part, second part, and so on, first.
func allParts(w string) [][]string {
	if w == "" {
		return [][]string{nil}
	}
	var all [][]string
	for m := len(w); m > 0; m-- {
		if w[:m] != backwards(w[:m]) {
			continue
		}
		for _, rest := range allParts(w[m:]) {
			all = append(all, append([]string{w[:m]}, rest...))
		}
	}
	return all
}

func TestFewestPartsAsDefined(t *testing.T) {
	words := append(allWords(10, 2), allWords(7, 3)...)
	for _, w := range append(words, longWord(20), "abcbabcba", "abccbadeed", "eabcbaedaabba") {
		var want []string
		for i, parts := range allParts(w) {
			if i == 0 || len(parts) < len(want) {
				want = parts
			}
		}
		got, code := impl.FewestParts(w)
		wantList(t, fmt.Sprintf("FewestParts(%q)", w), got, code, want, impl.ErrNone)
	}
}

// Promise 4: parts make the word. They are palindromes of at least one letter, and no other ones are fewer.
func TestPromisePartsMakeTheWord(t *testing.T) {
	for _, w := range palindromicWords() {
		parts, code := impl.FewestParts(w)
		whole := ""
		for _, part := range parts {
			whole = product(t, whole, part)
			if part == "" || part != backwards(part) {
				t.Errorf("FewestParts(%q) has the part %q", w, part)
			}
		}
		wantWord(t, fmt.Sprintf("the product of the parts %v", parts), whole, code, w, impl.ErrNone)
		fewest := make([]int, len(w)+1)
		for to := 1; to <= len(w); to++ {
			fewest[to] = to
			for from := range to {
				if part := w[from:to]; part == backwards(part) {
					fewest[to] = min(fewest[to], fewest[from]+1)
				}
			}
		}
		if len(parts) != fewest[len(w)] {
			t.Errorf("FewestParts(%q) has %d parts, not %d", w, len(parts), fewest[len(w)])
		}
	}
}

func TestClosureOf(t *testing.T) {
	triple, _ := impl.NamedWord("triple", 29)
	cases := []struct {
		w, want string
		code    int64
	}{
		{"abaab", "abaaba", impl.ErrNone},
		{"ab", "aba", impl.ErrNone},
		{"aa", "aa", impl.ErrNone},
		{"aab", "aabaa", impl.ErrNone},
		{"abb", "abba", impl.ErrNone},
		{"abc", "abcba", impl.ErrNone},
		{"abca", "abcacba", impl.ErrNone},
		{"abcba", "abcba", impl.ErrNone},
		{"abab", "ababa", impl.ErrNone},
		{strings.Repeat("a", 60), strings.Repeat("a", 60), impl.ErrNone},
		{strings.Repeat("ab", 29) + "a", strings.Repeat("ab", 29) + "a", impl.ErrNone},
		// Closures of 60 letters, and of 61.
		{"b" + strings.Repeat("a", 58), "b" + strings.Repeat("a", 58) + "b", impl.ErrNone},
		{"b" + strings.Repeat("a", 59), anError, impl.ErrLimit},
		{triple + "dd", triple + "dd" + backwards(triple), impl.ErrNone},
		{triple + "de", anError, impl.ErrLimit},
		{triple + "d", triple + "d" + backwards(triple), impl.ErrNone},
		{strings.Repeat("ab", 30), anError, impl.ErrLimit},
		{strings.Repeat("a", 59) + "b", anError, impl.ErrLimit},
		{longWord(31), anError, impl.ErrLimit},
		{longWord(30), longWord(30) + backwards(longWord(29)), impl.ErrNone},
		{longWord(60), anError, impl.ErrLimit},
	}
	for _, c := range cases {
		got, code := impl.ClosureOf(c.w)
		wantWord(t, fmt.Sprintf("ClosureOf(%q)", c.w), got, code, c.want, c.code)
	}
}

// wantClosed holds a closure against that which is wanted, or against ErrLimit if that has too many letters.
func wantClosed(t *testing.T, call string, got string, code int64, want string) {
	t.Helper()
	if len(want) > impl.MaxWord {
		wantWord(t, call, got, code, anError, impl.ErrLimit)
	} else {
		wantWord(t, call, got, code, want, impl.ErrNone)
	}
}

func TestClosureAsDefined(t *testing.T) {
	for _, w := range palindromicWords() {
		got, code := impl.ClosureOf(w)
		wantClosed(t, fmt.Sprintf("ClosureOf(%q)", w), got, code, closureAsDefined(w))
	}
}

func TestDirectedWord(t *testing.T) {
	fibonacci, _ := impl.NamedWord("fibonacci", 53)
	as := strings.Repeat("a", 19)
	cases := []struct {
		letters, want string
		code          int64
	}{
		{"aba", "abaaba", impl.ErrNone},
		{"ab", "aba", impl.ErrNone},
		{"aa", "aa", impl.ErrNone},
		{"abb", "ababa", impl.ErrNone},
		{"aab", "aabaa", impl.ErrNone},
		{"abc", "abacaba", impl.ErrNone},
		{"abca", "abacabaabacaba", impl.ErrNone},
		{"cba", "cbcacbc", impl.ErrNone},
		{"abcde", "abacabadabacabaeabacabadabacaba", impl.ErrNone},
		{"abababa", fibonacci, impl.ErrNone},
		{"abababab", anError, impl.ErrLimit},
		// Directed words of 60 letters, and of 61.
		{strings.Repeat("a", 60), strings.Repeat("a", 60), impl.ErrNone},
		{strings.Repeat("e", 59), strings.Repeat("e", 59), impl.ErrNone},
		{as + "ba", as + "b" + as + "ab" + as, impl.ErrNone},
		{as + "baa", anError, impl.ErrLimit},
		{as + "bab", anError, impl.ErrLimit},
		{"abcdeb", anError, impl.ErrLimit},
		{strings.Repeat("a", 30) + "b", anError, impl.ErrLimit},
		{strings.Repeat("a", 29) + "b", strings.Repeat("a", 29) + "b" + strings.Repeat("a", 29), impl.ErrNone},
		{strings.Repeat("a", 59) + "b", anError, impl.ErrLimit},
		{strings.Repeat("ab", 30), anError, impl.ErrLimit},
		{longWord(60), anError, impl.ErrLimit},
	}
	for _, c := range cases {
		got, code := impl.DirectedWord(c.letters)
		wantWord(t, fmt.Sprintf("DirectedWord(%q)", c.letters), got, code, c.want, c.code)
	}
}

func TestDirectedWordAsDefined(t *testing.T) {
	for _, letters := range append(allWords(10, 2), palindromicWords()...) {
		want := ""
		for i := range letters {
			if len(want) <= impl.MaxWord {
				want = closureAsDefined(want + letters[i:i+1])
			}
		}
		got, code := impl.DirectedWord(letters)
		wantClosed(t, fmt.Sprintf("DirectedWord(%q)", letters), got, code, want)
	}
}

func TestClosedAndPrivileged(t *testing.T) {
	cases := []struct {
		w                  string
		closed, privileged bool
	}{
		{"abcab", true, false},
		{"aa", true, true},
		{"ab", false, false},
		{"aba", true, true},
		{"aaa", true, true},
		{"abab", true, false},
		{"ababa", true, true},
		{"aabaa", true, true},
		{"abca", true, true},
		{"abba", true, true},
		{"aab", false, false},
		// The letters of the longest border stand at a third place.
		{"abaabba", false, false},
		{"abacaba", true, true},
		{"abaaba", true, true},
		{"abcabcab", true, false},
		{"abcdeabc", true, false},
		{"ababcabab", true, false},
		{"abcabcdab", false, false},
		{"abcbacab", true, false},
		{strings.Repeat("a", 60), true, true},
		{strings.Repeat("ab", 30), true, false},
		{strings.Repeat("ab", 29) + "a", true, true},
		{strings.Repeat("a", 59) + "b", false, false},
		{"b" + strings.Repeat("a", 58) + "b", true, true},
		{longWord(60), true, false},
		{longWord(57), true, false},
		{longWord(56), true, true},
		{longWord(6), true, true},
		{longWord(5), false, false},
	}
	for _, c := range cases {
		of := fmt.Sprintf("(%q)", c.w)
		closed, code := impl.IsClosedWord(c.w)
		wantAnswer(t, "IsClosedWord"+of, closed, code, c.closed, impl.ErrNone)
		privileged, code := impl.IsPrivileged(c.w)
		wantAnswer(t, "IsPrivileged"+of, privileged, code, c.privileged, impl.ErrNone)
	}
}

// The guarantee: privileged words are closed. Both are as defined.
func TestGuaranteePrivilegedWordsAreClosed(t *testing.T) {
	for _, w := range palindromicWords() {
		of := fmt.Sprintf("(%q)", w)
		closed, code := impl.IsClosedWord(w)
		wantAnswer(t, "IsClosedWord"+of, closed, code, closedAsDefined(w), impl.ErrNone)
		privileged, code := impl.IsPrivileged(w)
		wantAnswer(t, "IsPrivileged"+of, privileged, code, privilegedAsDefined(w), impl.ErrNone)
		if privileged && !closed {
			t.Errorf("%q is privileged, but not closed", w)
		}
	}
}

func TestCountClosed(t *testing.T) {
	cases := []struct {
		w                  string
		closed, privileged int64
	}{
		{"aba", 3, 3},
		{"ab", 2, 2},
		{"aaaa", 4, 4},
		{"abab", 5, 4},
		{"abcab", 6, 5},
		{"abca", 4, 4},
		{longWord(5), 5, 5},
		{strings.Repeat("a", 60), 60, 60},
		{strings.Repeat("a", 59) + "b", 60, 60},
	}
	for _, c := range cases {
		closed, privileged, code := impl.CountClosed(c.w)
		wantList(t, fmt.Sprintf("CountClosed(%q)", c.w), []int64{closed, privileged}, code, []int64{c.closed, c.privileged}, impl.ErrNone)
	}
}

func TestCountClosedAsDefined(t *testing.T) {
	for _, w := range palindromicWords() {
		factors := map[string]bool{}
		for from := range w {
			for to := from + 1; to <= len(w); to++ {
				factors[w[from:to]] = true
			}
		}
		want := []int64{0, 0}
		for factor := range factors {
			if closedAsDefined(factor) {
				want[0]++
			}
			if privilegedAsDefined(factor) {
				want[1]++
			}
		}
		closed, privileged, code := impl.CountClosed(w)
		wantList(t, fmt.Sprintf("CountClosed(%q)", w), []int64{closed, privileged}, code, want, impl.ErrNone)
	}
}

func TestResultsOfPalindromesAreNew(t *testing.T) {
	resultsAreNew(t, "PalindromesOf", func() ([]string, int64) { return impl.PalindromesOf("abaab") }, "x")
	resultsAreNew(t, "EndLengths", func() ([]int64, int64) { return impl.EndLengths("abaab") }, 77)
	resultsAreNew(t, "FewestParts", func() ([]string, int64) { return impl.FewestParts("abaab") }, "x")
}
