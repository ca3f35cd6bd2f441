package tests

import (
	"fmt"
	"math"
	"slices"
	"strings"
	"testing"

	"loop.example/g01371/impl"
)

// periodicWords are the words on which chapter 2 is held against its definitions: short ones all, and longer ones with many and few repeats.
func periodicWords() []string {
	words := append(allWords(8, 2), allWords(5, 3)...)
	words = append(words, mixedWords()...)
	words = append(words, "abcabcabcab", "aabaaabaabaaabaab", "babaabaababa", "eeedeeedeee", "dcbadcbaddcba", "bacbacbacba",
		strings.Repeat("aab", 20), strings.Repeat("abaab", 12), strings.Repeat("a", 59)+"b", "b"+strings.Repeat("a", 59), strings.Repeat("ab", 29)+"a")
	for _, name := range []string{"fibonacci", "thue", "doubling", "triple"} {
		for _, m := range []int64{13, 21, 34, 60} {
			w, _ := impl.NamedWord(name, m)
			words = append(words, w)
		}
	}
	return words
}

// isPeriod reports whether the letters of w at i and i + p are equal, for all places i and i + p.
func isPeriod(w string, p int) bool {
	for i := 0; i+p < len(w); i++ {
		if w[i] != w[i+p] {
			return false
		}
	}
	return true
}

// shortestPeriod returns the least period of a word of at least one letter.
func shortestPeriod(w string) int {
	p := 1
	for !isPeriod(w, p) {
		p++
	}
	return p
}

// turnedBy returns the words that come from w by turning it, by 0 letters, by 1, and so on: one for the empty word.
func turnedBy(t *testing.T, w string) []string {
	t.Helper()
	var list []string
	for k := range max(1, len(w)) {
		turned, code := impl.TurnWord(w, int64(k))
		if code != impl.ErrNone {
			t.Fatalf("TurnWord(%q, %d): code %d", w, k, code)
		}
		list = append(list, turned)
	}
	return list
}

// isBordered reports whether some letters less than all of w, but at least one, are its beginning and its end.
func isBordered(w string) bool {
	for b := 1; b < len(w); b++ {
		if w[:b] == w[len(w)-b:] {
			return true
		}
	}
	return false
}

// divisor returns the greatest common divisor of two numbers of at least 1, the greatest one that divides both.
func divisor(p int64, q int64) int64 {
	d := min(p, q)
	for p%d != 0 || q%d != 0 {
		d--
	}
	return d
}

// Each function refuses each string that is not a word, also where another error is there as well.
func TestWordsWithPeriodsAreAsked(t *testing.T) {
	for _, w := range notWords {
		of := fmt.Sprintf("(%q)", w)
		list, code := impl.BordersOf(w)
		wantList(t, "BordersOf"+of, list, code, nil, impl.ErrInvalid)
		list, code = impl.PeriodsOf(w)
		wantList(t, "PeriodsOf"+of, list, code, nil, impl.ErrInvalid)
		list, code = impl.CriticalPlaces(w)
		wantList(t, "CriticalPlaces"+of, list, code, nil, impl.ErrInvalid)
		word, n, code := impl.RootOf(w)
		wantWordAndNumber(t, "RootOf"+of, word, n, code, anError, 0, impl.ErrInvalid)
		word, n, code = impl.LeastTurned(w)
		wantWordAndNumber(t, "LeastTurned"+of, word, n, code, anError, 0, impl.ErrInvalid)
		n, p, code := impl.ExponentOf(w)
		wantList(t, "ExponentOf"+of, []int64{n, p}, code, []int64{0, 0}, impl.ErrInvalid)
		n, code = impl.CountTurned(w)
		wantNumber(t, "CountTurned"+of, n, code, 0, impl.ErrInvalid)
		for _, i := range []int64{-1, 0, 1, 60, 61, math.MaxInt64, math.MinInt64} {
			n, code = impl.LocalPeriod(w, i)
			wantNumber(t, "LocalPeriod"+of, n, code, 0, impl.ErrInvalid)
		}
		yes, code := impl.IsLyndon(w)
		wantAnswer(t, "IsLyndon"+of, yes, code, false, impl.ErrInvalid)
		words, code := impl.LyndonParts(w)
		wantList(t, "LyndonParts"+of, words, code, nil, impl.ErrInvalid)
		word, code = impl.LongestUnbordered(w)
		wantWord(t, "LongestUnbordered"+of, word, code, anError, impl.ErrInvalid)
	}
}

// The empty word has a result where no word of at least one letter is told, and no other error than ErrState where one is.
func TestPeriodsOfTheEmptyWord(t *testing.T) {
	list, code := impl.BordersOf("")
	wantList(t, "BordersOf", list, code, nil, impl.ErrNone)
	list, code = impl.PeriodsOf("")
	wantList(t, "PeriodsOf", list, code, nil, impl.ErrNone)
	list, code = impl.CriticalPlaces("")
	wantList(t, "CriticalPlaces", list, code, nil, impl.ErrNone)
	word, n, code := impl.RootOf("")
	wantWordAndNumber(t, "RootOf", word, n, code, anError, 0, impl.ErrState)
	word, n, code = impl.LeastTurned("")
	wantWordAndNumber(t, "LeastTurned", word, n, code, "", 0, impl.ErrNone)
	n, p, code := impl.ExponentOf("")
	wantList(t, "ExponentOf", []int64{n, p}, code, []int64{0, 0}, impl.ErrState)
	n, code = impl.CountTurned("")
	wantNumber(t, "CountTurned", n, code, 1, impl.ErrNone)
	yes, code := impl.IsLyndon("")
	wantAnswer(t, "IsLyndon", yes, code, false, impl.ErrNone)
	words, code := impl.LyndonParts("")
	wantList(t, "LyndonParts", words, code, nil, impl.ErrNone)
	word, code = impl.LongestUnbordered("")
	wantWord(t, "LongestUnbordered", word, code, anError, impl.ErrState)
}

func TestPeriodsOfOneLetter(t *testing.T) {
	for _, w := range []string{"a", "b", "c", "d", "e"} {
		list, code := impl.BordersOf(w)
		wantList(t, "BordersOf", list, code, []int64{0}, impl.ErrNone)
		list, code = impl.PeriodsOf(w)
		wantList(t, "PeriodsOf", list, code, []int64{1}, impl.ErrNone)
		list, code = impl.CriticalPlaces(w)
		wantList(t, "CriticalPlaces", list, code, nil, impl.ErrNone)
		word, n, code := impl.RootOf(w)
		wantWordAndNumber(t, "RootOf", word, n, code, w, 1, impl.ErrNone)
		word, n, code = impl.LeastTurned(w)
		wantWordAndNumber(t, "LeastTurned", word, n, code, w, 0, impl.ErrNone)
		n, p, code := impl.ExponentOf(w)
		wantList(t, "ExponentOf", []int64{n, p}, code, []int64{1, 1}, impl.ErrNone)
		n, code = impl.CountTurned(w)
		wantNumber(t, "CountTurned", n, code, 1, impl.ErrNone)
		yes, code := impl.IsLyndon(w)
		wantAnswer(t, "IsLyndon", yes, code, true, impl.ErrNone)
		words, code := impl.LyndonParts(w)
		wantList(t, "LyndonParts", words, code, []string{w}, impl.ErrNone)
		word, code = impl.LongestUnbordered(w)
		wantWord(t, "LongestUnbordered", word, code, w, impl.ErrNone)
	}
}

func TestBordersAndPeriods(t *testing.T) {
	cases := []struct {
		w                string
		borders, periods []int64
	}{
		{"abaab", []int64{0, 2}, []int64{3, 5}},
		{"aaaa", []int64{0, 1, 2, 3}, []int64{1, 2, 3, 4}},
		{"ab", []int64{0}, []int64{2}},
		{"aa", []int64{0, 1}, []int64{1, 2}},
		{"abab", []int64{0, 2}, []int64{2, 4}},
		{"abcba", []int64{0, 1}, []int64{4, 5}},
		{"abacaba", []int64{0, 1, 3}, []int64{4, 6, 7}},
		{"abcde", []int64{0}, []int64{5}},
	}
	for _, c := range cases {
		got, code := impl.BordersOf(c.w)
		wantList(t, fmt.Sprintf("BordersOf(%q)", c.w), got, code, c.borders, impl.ErrNone)
		got, code = impl.PeriodsOf(c.w)
		wantList(t, fmt.Sprintf("PeriodsOf(%q)", c.w), got, code, c.periods, impl.ErrNone)
	}
}

// The guarantee: borders belong to periods. Both are all there are, and ascend.
func TestGuaranteeBordersBelongToPeriods(t *testing.T) {
	for _, w := range periodicWords() {
		var borders, periods []int64
		for b := range len(w) {
			if w[:b] == w[len(w)-b:] {
				borders = append(borders, int64(b))
			}
		}
		for p := 1; p <= len(w); p++ {
			if isPeriod(w, p) {
				periods = append(periods, int64(p))
			}
		}
		gotBorders, code := impl.BordersOf(w)
		wantList(t, fmt.Sprintf("BordersOf(%q)", w), gotBorders, code, borders, impl.ErrNone)
		gotPeriods, code := impl.PeriodsOf(w)
		wantList(t, fmt.Sprintf("PeriodsOf(%q)", w), gotPeriods, code, periods, impl.ErrNone)
		for i, b := range gotBorders {
			p := gotPeriods[len(gotPeriods)-1-i]
			if b+p != int64(len(w)) {
				t.Errorf("%q has the border %d, but no period for it: %v", w, b, gotPeriods)
			}
		}
	}
}

func TestRootOf(t *testing.T) {
	cases := []struct {
		w, root string
		k       int64
	}{
		{"abab", "ab", 2},
		{"abaab", "abaab", 1},
		{"ababa", "ababa", 1},
		{"aaaa", "a", 4},
		{"aabaab", "aab", 2},
		{"aabaaba", "aabaaba", 1},
		{longWord(60), "abcde", 12},
		{longWord(59), longWord(59), 1},
		{strings.Repeat("a", 60), "a", 60},
		{strings.Repeat(longWord(29)+"a", 2), longWord(29) + "a", 2},
	}
	for _, c := range cases {
		root, k, code := impl.RootOf(c.w)
		wantWordAndNumber(t, fmt.Sprintf("RootOf(%q)", c.w), root, k, code, c.root, c.k, impl.ErrNone)
	}
}

// Promise 2: words are powers of their roots. No shorter word has them as powers, and the roots are their own.
func TestPromisePowersOfRoots(t *testing.T) {
	for _, w := range periodicWords() {
		if w == "" {
			continue
		}
		root, k, code := impl.RootOf(w)
		if code != impl.ErrNone || root == "" {
			t.Fatalf("RootOf(%q) = %q, %d, %d", w, root, k, code)
		}
		power, code := impl.PowerOf(root, k)
		wantWord(t, fmt.Sprintf("the power of %q and %d", root, k), power, code, w, impl.ErrNone)
		for m := 1; m < len(root); m++ {
			if len(w)%m == 0 && strings.Repeat(w[:m], len(w)/m) == w {
				t.Errorf("RootOf(%q) = %q, but it is a power of %q", w, root, w[:m])
			}
		}
		again, one, code := impl.RootOf(root)
		wantWordAndNumber(t, fmt.Sprintf("RootOf(%q)", root), again, one, code, root, 1, impl.ErrNone)
	}
}

func TestRootsOfPowers(t *testing.T) {
	for _, w := range allWords(5, 2)[1:] {
		root, times, _ := impl.RootOf(w)
		for k := int64(1); k*int64(len(w)) <= impl.MaxWord; k++ {
			power, _ := impl.PowerOf(w, k)
			got, n, code := impl.RootOf(power)
			wantWordAndNumber(t, fmt.Sprintf("RootOf(%q)", power), got, n, code, root, times*k, impl.ErrNone)
		}
	}
}

func TestExponentOf(t *testing.T) {
	cases := []struct {
		w    string
		n, p int64
	}{
		{"abaab", 5, 3},
		{"abab", 2, 1},
		{"aaaa", 4, 1},
		{"abcab", 5, 3},
		{"abcabc", 2, 1},
		{"abcdab", 3, 2},
		{"aabaaabaa", 9, 4},
		{"abcdeabcd", 9, 5},
		{"ab", 1, 1},
		{"abcde", 1, 1},
		{longWord(60), 12, 1},
		{longWord(59), 59, 5},
		{strings.Repeat("a", 60), 60, 1},
		{strings.Repeat("a", 59) + "b", 1, 1},
	}
	for _, c := range cases {
		n, p, code := impl.ExponentOf(c.w)
		wantList(t, fmt.Sprintf("ExponentOf(%q)", c.w), []int64{n, p}, code, []int64{c.n, c.p}, impl.ErrNone)
	}
	for _, w := range periodicWords() {
		if w == "" {
			continue
		}
		n, p, code := impl.ExponentOf(w)
		if code != impl.ErrNone || n < 1 || p < 1 || n*int64(shortestPeriod(w)) != p*int64(len(w)) || divisor(n, p) != 1 {
			t.Errorf("ExponentOf(%q) = %d, %d, %d", w, n, p, code)
		}
	}
}

func TestTurnedWords(t *testing.T) {
	cases := []struct {
		w, least    string
		turn, count int64
	}{
		{"baab", "aabb", 1, 4},
		{"abab", "abab", 0, 2},
		{"baba", "abab", 1, 2},
		{"cba", "acb", 2, 3},
		{"aaaa", "aaaa", 0, 1},
		{"bacbac", "acbacb", 1, 3},
		{"abaab", "aabab", 2, 5},
		{"edcba", "aedcb", 4, 5},
		{longWord(60), longWord(60), 0, 5},
		{strings.Repeat("b", 59) + "a", "a" + strings.Repeat("b", 59), 59, 60},
	}
	for _, c := range cases {
		least, turn, code := impl.LeastTurned(c.w)
		wantWordAndNumber(t, fmt.Sprintf("LeastTurned(%q)", c.w), least, turn, code, c.least, c.turn, impl.ErrNone)
		count, code := impl.CountTurned(c.w)
		wantNumber(t, fmt.Sprintf("CountTurned(%q)", c.w), count, code, c.count, impl.ErrNone)
	}
	for _, w := range periodicWords() {
		list := turnedBy(t, w)
		least := slices.Min(list)
		word, turn, code := impl.LeastTurned(w)
		wantWordAndNumber(t, fmt.Sprintf("LeastTurned(%q)", w), word, turn, code, least, int64(slices.Index(list, least)), impl.ErrNone)
		slices.Sort(list)
		count, code := impl.CountTurned(w)
		wantNumber(t, fmt.Sprintf("CountTurned(%q)", w), count, code, int64(len(slices.Compact(list))), impl.ErrNone)
	}
}

// As many words come from a word by turning it as its root has letters.
func TestTurnedWordsAndRoots(t *testing.T) {
	for _, w := range periodicWords() {
		if w == "" {
			continue
		}
		root, _, _ := impl.RootOf(w)
		count, code := impl.CountTurned(w)
		wantNumber(t, fmt.Sprintf("CountTurned(%q)", w), count, code, int64(len(root)), impl.ErrNone)
	}
}

func TestLocalPeriod(t *testing.T) {
	cases := []struct {
		w    string
		want []int64
	}{
		{"abaab", []int64{2, 3, 1, 3}},
		{"ab", []int64{2}},
		{"aa", []int64{1}},
		{"aab", []int64{1, 3}},
		{"abc", []int64{3, 3}},
		{"abab", []int64{2, 2, 2}},
		{"abcabc", []int64{3, 3, 3, 3, 3}},
		{"aaaab", []int64{1, 1, 1, 5}},
		{"baaaa", []int64{5, 1, 1, 1}},
		{"abacaba", []int64{2, 4, 4, 4, 4, 2}},
	}
	for _, c := range cases {
		for i, want := range c.want {
			got, code := impl.LocalPeriod(c.w, int64(i)+1)
			wantNumber(t, fmt.Sprintf("LocalPeriod(%q, %d)", c.w, i+1), got, code, want, impl.ErrNone)
		}
	}
}

func TestLocalPeriodOutside(t *testing.T) {
	for _, w := range []string{"", "a", "ab", "abaab", longWord(59), longWord(60)} {
		for _, i := range []int64{0, -1, int64(len(w)), int64(len(w)) + 1, math.MaxInt64, math.MinInt64} {
			got, code := impl.LocalPeriod(w, i)
			wantNumber(t, fmt.Sprintf("LocalPeriod(%q, %d)", w, i), got, code, 0, impl.ErrRange)
		}
	}
}

// repeatsAround reports whether the letters at j and j + p are equal for all places j less than i with j + p at least i.
func repeatsAround(w string, i int, p int) bool {
	for j := range w {
		if j < i && j+p >= i && j+p < len(w) && w[j] != w[j+p] {
			return false
		}
	}
	return true
}

func TestLocalPeriodsAsDefined(t *testing.T) {
	for _, w := range periodicWords() {
		for i := 1; i < len(w); i++ {
			p := 1
			for !repeatsAround(w, i, p) {
				p++
			}
			got, code := impl.LocalPeriod(w, int64(i))
			wantNumber(t, fmt.Sprintf("LocalPeriod(%q, %d)", w, i), got, code, int64(p), impl.ErrNone)
		}
	}
}

func TestCriticalPlaces(t *testing.T) {
	cases := map[string][]int64{
		"abaab":                        {2, 4},
		"ab":                           {1},
		"aa":                           {1},
		"aab":                          {2},
		"aaaa":                         {1, 2, 3},
		"abab":                         {1, 2, 3},
		"baaaa":                        {1},
		"abacaba":                      {2, 3, 4, 5},
		strings.Repeat("a", 59) + "b":  {59},
		"b" + strings.Repeat("a", 59):  {1},
		"abb":                          {1},
		strings.Repeat("c", 2) + "cce": {4},
	}
	for w, want := range cases {
		got, code := impl.CriticalPlaces(w)
		wantList(t, fmt.Sprintf("CriticalPlaces(%q)", w), got, code, want, impl.ErrNone)
	}
}

// Promise 2: critical places have the least period. Words of at least two letters have some, and no other place has it.
func TestPromiseCriticalPlaces(t *testing.T) {
	for _, w := range periodicWords() {
		places, code := impl.CriticalPlaces(w)
		if code != impl.ErrNone || (len(places) > 0) != (len(w) > 1) {
			t.Fatalf("CriticalPlaces(%q) = %v, %d", w, places, code)
		}
		if w == "" {
			continue
		}
		periods, _ := impl.PeriodsOf(w)
		var critical []int64
		for i := int64(1); i < int64(len(w)); i++ {
			p, code := impl.LocalPeriod(w, i)
			if code != impl.ErrNone || p > periods[0] {
				t.Errorf("LocalPeriod(%q, %d) = %d, %d, more than %d", w, i, p, code, periods[0])
			}
			if p == int64(shortestPeriod(w)) {
				critical = append(critical, i)
			}
		}
		wantList(t, fmt.Sprintf("CriticalPlaces(%q)", w), places, code, critical, impl.ErrNone)
	}
}

func TestDoubleLength(t *testing.T) {
	cases := []struct{ p, q, want, code int64 }{
		{3, 5, 6, impl.ErrNone},
		{5, 3, 6, impl.ErrNone},
		{4, 6, 7, impl.ErrNone},
		{6, 10, 13, impl.ErrNone},
		{1, 1, 0, impl.ErrNone},
		{1, 5, 4, impl.ErrNone},
		{2, 2, 1, impl.ErrNone},
		{3, 9, 8, impl.ErrNone},
		{1000000, 1000000, 999999, impl.ErrNone},
		{1000000, 999999, 1999997, impl.ErrNone},
		{1, 1000000, 999999, impl.ErrNone},
		{1000001, 1, 0, impl.ErrRange},
		{1, 1000001, 0, impl.ErrRange},
		{1000001, 1000001, 0, impl.ErrRange},
		{0, 1, 0, impl.ErrRange},
		{1, 0, 0, impl.ErrRange},
		{0, 0, 0, impl.ErrRange},
		{-3, 5, 0, impl.ErrRange},
		{3, -5, 0, impl.ErrRange},
		{math.MaxInt64, math.MaxInt64, 0, impl.ErrRange},
		{math.MinInt64, math.MinInt64, 0, impl.ErrRange},
		{math.MinInt64, 5, 0, impl.ErrRange},
		{3, math.MaxInt64, 0, impl.ErrRange},
	}
	for _, c := range cases {
		got, code := impl.DoubleLength(c.p, c.q)
		wantNumber(t, fmt.Sprintf("DoubleLength(%d, %d)", c.p, c.q), got, code, c.want, c.code)
	}
	for p := int64(1); p <= 80; p++ {
		for q := int64(1); q <= 80; q++ {
			got, code := impl.DoubleLength(p, q)
			wantNumber(t, fmt.Sprintf("DoubleLength(%d, %d)", p, q), got, code, p+q-divisor(p, q)-1, impl.ErrNone)
		}
	}
}

// The greatest length of a word that has two periods, but not their divisor, is looked for among all words, where neither divides the other.
func TestDoubleLengthIsTheGreatest(t *testing.T) {
	words := allWords(10, 2)
	for p := 2; p <= 6; p++ {
		for q := 2; q <= 6; q++ {
			d := int(divisor(int64(p), int64(q)))
			if d == min(p, q) {
				continue
			}
			longest := 0
			for _, w := range words {
				if isPeriod(w, p) && isPeriod(w, q) && !isPeriod(w, d) {
					longest = len(w)
				}
			}
			got, code := impl.DoubleLength(int64(p), int64(q))
			wantNumber(t, fmt.Sprintf("DoubleLength(%d, %d)", p, q), got, code, int64(longest), impl.ErrNone)
		}
	}
}

func TestDoubleWord(t *testing.T) {
	cases := []struct {
		p, q int64
		want string
		code int64
	}{
		{3, 5, "abaaba", impl.ErrNone},
		{5, 3, "abaaba", impl.ErrNone},
		{2, 5, "ababa", impl.ErrNone},
		{3, 4, "aabaa", impl.ErrNone},
		{4, 6, "abacaba", impl.ErrNone},
		{2, 4, "aba", impl.ErrNone},
		{1, 1, "", impl.ErrNone},
		{2, 2, "a", impl.ErrNone},
		{1, 2, "a", impl.ErrNone},
		{1, 60, strings.Repeat("a", 59), impl.ErrNone},
		{60, 1, strings.Repeat("a", 59), impl.ErrNone},
		{6, 6, "abcde", impl.ErrNone},
		{7, 7, anError, impl.ErrLimit},
		{5, 10, "abcdeabcd", impl.ErrNone},
		{6, 12, anError, impl.ErrLimit},
		{8, 12, "abcdabceabcdabc", impl.ErrNone},
		{10, 15, anError, impl.ErrLimit},
		{60, 60, anError, impl.ErrLimit},
		{29, 34, anError, impl.ErrLimit},
		{60, 59, anError, impl.ErrLimit},
		{61, 1, anError, impl.ErrRange},
		{1, 61, anError, impl.ErrRange},
		{61, 61, anError, impl.ErrRange},
		{60, 61, anError, impl.ErrRange},
		{0, 5, anError, impl.ErrRange},
		{5, 0, anError, impl.ErrRange},
		{0, 60, anError, impl.ErrRange},
		{-3, 5, anError, impl.ErrRange},
		{3, -5, anError, impl.ErrRange},
		{1000000, 1000000, anError, impl.ErrRange},
		{1000001, 1, anError, impl.ErrRange},
		{math.MaxInt64, math.MaxInt64, anError, impl.ErrRange},
		{math.MinInt64, math.MinInt64, anError, impl.ErrRange},
		{math.MinInt64, 3, anError, impl.ErrRange},
		{3, math.MaxInt64, anError, impl.ErrRange},
	}
	for _, c := range cases {
		got, code := impl.DoubleWord(c.p, c.q)
		wantWord(t, fmt.Sprintf("DoubleWord(%d, %d)", c.p, c.q), got, code, c.want, c.code)
	}
	if got, code := impl.DoubleWord(29, 33); len(got) != impl.MaxWord || code != impl.ErrNone {
		t.Errorf("DoubleWord(29, 33) = %q, %d", got, code)
	}
}

// lettersOfSteps gives each of n places a letter as the chapter tells it, by walking from each place without one to all that are joined with it.
func lettersOfSteps(n int, p int, q int) []rune {
	letters := make([]rune, n)
	next := 'a'
	for place := range n {
		if letters[place] != 0 {
			continue
		}
		letters[place] = next
		for walk := []int{place}; len(walk) > 0; walk = walk[1:] {
			for _, to := range []int{walk[0] + p, walk[0] - p, walk[0] + q, walk[0] - q} {
				if to >= 0 && to < n && letters[to] == 0 {
					letters[to] = next
					walk = append(walk, to)
				}
			}
		}
		next++
	}
	return letters
}

// The guarantee: double words have both periods. They have as many letters as can be, and not the period of the divisor.
func TestGuaranteeDoubleWords(t *testing.T) {
	for p := 1; p <= impl.MaxWord; p++ {
		for q := 1; q <= impl.MaxWord; q++ {
			of := fmt.Sprintf("(%d, %d)", p, q)
			d := int(divisor(int64(p), int64(q)))
			letters := lettersOfSteps(p+q-d-1, p, q)
			want, wantCode := string(letters), int64(impl.ErrNone)
			if len(letters) > impl.MaxWord || len(letters) > 0 && slices.Max(letters) > 'e' {
				want, wantCode = anError, impl.ErrLimit
			}
			got, code := impl.DoubleWord(int64(p), int64(q))
			wantWord(t, "DoubleWord"+of, got, code, want, wantCode)
			if code != impl.ErrNone {
				continue
			}
			if !isPeriod(got, p) || !isPeriod(got, q) || isPeriod(got, d) != (d == min(p, q)) {
				t.Errorf("DoubleWord%s = %q has not its periods", of, got)
			}
			length, code := impl.DoubleLength(int64(p), int64(q))
			wantNumber(t, "DoubleLength"+of, int64(len(got)), code, length, impl.ErrNone)
		}
	}
}

func TestIsLyndon(t *testing.T) {
	cases := map[string]bool{
		"aab": true, "ab": true, "aabab": true, "abac": true, "abcde": true, "acb": true, "aabb": true,
		"aa": false, "ba": false, "aba": false, "abab": false, "abaab": false, "aabaab": false, "bab": false, "abca": false,
		longWord(60): false, strings.Repeat("a", 59) + "b": true, strings.Repeat("a", 60): false, strings.Repeat("ab", 29) + "b": true,
	}
	for w, want := range cases {
		got, code := impl.IsLyndon(w)
		wantAnswer(t, fmt.Sprintf("IsLyndon(%q)", w), got, code, want, impl.ErrNone)
	}
	for _, w := range periodicWords() {
		want := w != ""
		for _, turned := range turnedBy(t, w)[1:] {
			want = want && w < turned
		}
		got, code := impl.IsLyndon(w)
		wantAnswer(t, fmt.Sprintf("IsLyndon(%q)", w), got, code, want, impl.ErrNone)
	}
}

func TestLyndonParts(t *testing.T) {
	cases := map[string][]string{
		"abaab":                       {"ab", "aab"},
		"aab":                         {"aab"},
		"baa":                         {"b", "a", "a"},
		"abab":                        {"ab", "ab"},
		"ababa":                       {"ab", "ab", "a"},
		"abaabaaab":                   {"ab", "aab", "aaab"},
		"edcba":                       {"e", "d", "c", "b", "a"},
		"abcde":                       {"abcde"},
		"bacbac":                      {"b", "acb", "ac"},
		longWord(10) + "a":            {"abcde", "abcde", "a"},
		strings.Repeat("a", 60):       strings.Split(strings.Repeat("a", 60), ""),
		strings.Repeat("a", 59) + "b": {strings.Repeat("a", 59) + "b"},
	}
	for w, want := range cases {
		got, code := impl.LyndonParts(w)
		wantList(t, fmt.Sprintf("LyndonParts(%q)", w), got, code, want, impl.ErrNone)
	}
}

// Promise 2: words are products of their Lyndon parts. These are Lyndon words, and none is less than the next one.
func TestPromiseProductsOfLyndonParts(t *testing.T) {
	for _, w := range periodicWords() {
		parts, code := impl.LyndonParts(w)
		if code != impl.ErrNone {
			t.Fatalf("LyndonParts(%q): code %d", w, code)
		}
		whole := ""
		for i, part := range parts {
			whole = product(t, whole, part)
			yes, code := impl.IsLyndon(part)
			wantAnswer(t, fmt.Sprintf("IsLyndon(%q), a part of %q", part, w), yes, code, true, impl.ErrNone)
			if i == 0 {
				continue
			}
			order, code := impl.CompareWords(parts[i-1], part)
			if order < 0 || code != impl.ErrNone {
				t.Errorf("LyndonParts(%q) = %q, where %q is less than the next one", w, parts, parts[i-1])
			}
		}
		wantWord(t, fmt.Sprintf("the product of %q", parts), whole, impl.ErrNone, w, impl.ErrNone)
	}
}

// A word is a Lyndon word just if it is its only part.
func TestLyndonWordsAreTheirParts(t *testing.T) {
	for _, w := range periodicWords() {
		parts, _ := impl.LyndonParts(w)
		yes, code := impl.IsLyndon(w)
		wantAnswer(t, fmt.Sprintf("IsLyndon(%q)", w), yes, code, len(parts) == 1, impl.ErrNone)
	}
}

func TestLongestUnbordered(t *testing.T) {
	cases := map[string]string{
		"abaab":                       "baa",
		"ab":                          "ab",
		"aa":                          "a",
		"bbbb":                        "b",
		"aba":                         "ab",
		"abab":                        "ab",
		"abcabc":                      "abc",
		"cabca":                       "cab",
		"abacaba":                     "abac",
		"aabaa":                       "aab",
		"abcde":                       "abcde",
		longWord(60):                  "abcde",
		longWord(60)[1:]:              "bcdea",
		strings.Repeat("a", 59) + "b": strings.Repeat("a", 59) + "b",
		strings.Repeat("a", 60):       "a",
	}
	for w, want := range cases {
		got, code := impl.LongestUnbordered(w)
		wantWord(t, fmt.Sprintf("LongestUnbordered(%q)", w), got, code, want, impl.ErrNone)
	}
	for _, w := range periodicWords() {
		if w == "" {
			continue
		}
		want := ""
		for i := range w {
			for end := i + 1; end <= len(w); end++ {
				if end-i > len(want) && !isBordered(w[i:end]) {
					want = w[i:end]
				}
			}
		}
		got, code := impl.LongestUnbordered(w)
		wantWord(t, fmt.Sprintf("LongestUnbordered(%q)", w), got, code, want, impl.ErrNone)
	}
}

func TestResultsOfPeriodsAreNew(t *testing.T) {
	resultsAreNew(t, "BordersOf", func() ([]int64, int64) { return impl.BordersOf("abaab") }, 77)
	resultsAreNew(t, "PeriodsOf", func() ([]int64, int64) { return impl.PeriodsOf("abaab") }, 77)
	resultsAreNew(t, "CriticalPlaces", func() ([]int64, int64) { return impl.CriticalPlaces("abaab") }, 77)
	resultsAreNew(t, "LyndonParts", func() ([]string, int64) { return impl.LyndonParts("abaab") }, "x")
}
