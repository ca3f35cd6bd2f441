package tests

import (
	"fmt"
	"math"
	"slices"
	"strings"
	"testing"

	"loop.example/g01371/impl"
)

// someSquareFree are square free words of several lengths, the empty word and one of the most letters among them.
func someSquareFree(t *testing.T) []string {
	t.Helper()
	list := []string{"", "a", "e", "ab", "aba", "abacaba", "abcacbabc", "abacabadabacaba", "abcde", "edcbaedbc"}
	for _, m := range []int64{30, 59, 60} {
		w, code := impl.NamedWord("triple", m)
		if code != impl.ErrNone {
			t.Fatalf("NamedWord: code %d", code)
		}
		list = append(list, w)
	}
	return list
}

// hasSquare reports whether some letters stand twice behind each other in w.
func hasSquare(w string) bool {
	for i := range w {
		for q := 1; i+2*q <= len(w); q++ {
			if w[i:i+q] == w[i+q:i+2*q] {
				return true
			}
		}
	}
	return false
}

// wantPairs holds lists of two numbers against those that are wanted.
func wantPairs(t *testing.T, call string, got [][]int64, code int64, want [][]int64, wantCode int64) {
	t.Helper()
	if !slices.EqualFunc(got, want, slices.Equal[[]int64]) || code != wantCode {
		t.Errorf("%s = %v, %d, not %v, %d", call, got, code, want, wantCode)
	}
}

// powersAsDefined returns the place and the root length of each power of k in w: so many times the root behind each other.
func powersAsDefined(w string, k int) [][]int64 {
	var list [][]int64
	for i := range w {
		for q := 1; i+k*q <= len(w); q++ {
			if strings.Repeat(w[i:i+q], k) == w[i:i+k*q] {
				list = append(list, []int64{int64(i), int64(q)})
			}
		}
	}
	return list
}

// Each function refuses each string that is not a word, also where another error is there as well.
func TestWordsWithPowersAreAsked(t *testing.T) {
	for _, w := range notWords {
		of := fmt.Sprintf("(%q)", w)
		for _, k := range []int64{-1, 0, 1, 2, 60, 61, math.MaxInt64, math.MinInt64} {
			pairs, code := impl.PowersIn(w, k)
			wantPairs(t, "PowersIn"+of, pairs, code, nil, impl.ErrInvalid)
			n, code := impl.CountPowers(w, k)
			wantNumber(t, "CountPowers"+of, n, code, 0, impl.ErrInvalid)
		}
		words, code := impl.SquaresOf(w)
		wantList(t, "SquaresOf"+of, words, code, nil, impl.ErrInvalid)
		i, q, code := impl.FirstSquare(w)
		wantList(t, "FirstSquare"+of, []int64{i, q}, code, []int64{0, 0}, impl.ErrInvalid)
		pairs, code := impl.OverlapsIn(w)
		wantPairs(t, "OverlapsIn"+of, pairs, code, nil, impl.ErrInvalid)
		runs, code := impl.RunsOf(w)
		wantList(t, "RunsOf"+of, runs, code, nil, impl.ErrInvalid)
		n, p, code := impl.GreatestExponent(w)
		wantList(t, "GreatestExponent"+of, []int64{n, p}, code, []int64{0, 0}, impl.ErrInvalid)
		yes, code := impl.IsSquareFree(w)
		wantAnswer(t, "IsSquareFree"+of, yes, code, false, impl.ErrInvalid)
		yes, code = impl.IsOverlapFree(w)
		wantAnswer(t, "IsOverlapFree"+of, yes, code, false, impl.ErrInvalid)
		for _, k := range []int64{-1, 0, 1, 3, 5, 6, math.MaxInt64, math.MinInt64} {
			list, code := impl.LettersNext(w, k)
			wantList(t, "LettersNext"+of, list, code, nil, impl.ErrInvalid)
		}
	}
}

// Words of less than two letters have no powers, and they are square free.
func TestPowersOfShortestWords(t *testing.T) {
	for _, w := range []string{"", "a", "b", "c", "d", "e"} {
		of := fmt.Sprintf("(%q)", w)
		for _, k := range []int64{2, 3, 60} {
			pairs, code := impl.PowersIn(w, k)
			wantPairs(t, "PowersIn"+of, pairs, code, nil, impl.ErrNone)
			n, code := impl.CountPowers(w, k)
			wantNumber(t, "CountPowers"+of, n, code, 0, impl.ErrNone)
		}
		words, code := impl.SquaresOf(w)
		wantList(t, "SquaresOf"+of, words, code, nil, impl.ErrNone)
		i, q, code := impl.FirstSquare(w)
		wantList(t, "FirstSquare"+of, []int64{i, q}, code, []int64{0, 0}, impl.ErrNotFound)
		pairs, code := impl.OverlapsIn(w)
		wantPairs(t, "OverlapsIn"+of, pairs, code, nil, impl.ErrNone)
		runs, code := impl.RunsOf(w)
		wantList(t, "RunsOf"+of, runs, code, nil, impl.ErrNone)
		yes, code := impl.IsSquareFree(w)
		wantAnswer(t, "IsSquareFree"+of, yes, code, true, impl.ErrNone)
		yes, code = impl.IsOverlapFree(w)
		wantAnswer(t, "IsOverlapFree"+of, yes, code, true, impl.ErrNone)
		n, p, code := impl.GreatestExponent(w)
		if w == "" {
			wantList(t, "GreatestExponent"+of, []int64{n, p}, code, []int64{0, 0}, impl.ErrNotFound)
		} else {
			wantList(t, "GreatestExponent"+of, []int64{n, p}, code, []int64{1, 1}, impl.ErrNone)
		}
	}
}

func TestPowersIn(t *testing.T) {
	cases := []struct {
		w    string
		k    int64
		want [][]int64
	}{
		{"aabaab", 2, [][]int64{{0, 1}, {0, 3}, {3, 1}}},
		{"aaaa", 2, [][]int64{{0, 1}, {0, 2}, {1, 1}, {2, 1}}},
		{"aaaa", 3, [][]int64{{0, 1}, {1, 1}}},
		{"aaaa", 4, [][]int64{{0, 1}}},
		{"aaaa", 5, nil},
		{"ababab", 2, [][]int64{{0, 2}, {1, 2}, {2, 2}}},
		{"ababab", 3, [][]int64{{0, 2}}},
		{"ababa", 3, nil},
		{"abcabc", 2, [][]int64{{0, 3}}},
		{"cabab", 2, [][]int64{{1, 2}}},
		{"ee", 2, [][]int64{{0, 1}}},
		{"abacaba", 2, nil},
		{strings.Repeat("a", 60), 60, [][]int64{{0, 1}}},
		{strings.Repeat("a", 60), 59, [][]int64{{0, 1}, {1, 1}}},
		{strings.Repeat("a", 60), 30, powersAsDefined(strings.Repeat("a", 60), 30)},
		{strings.Repeat("a", 59), 60, nil},
		{strings.Repeat("ab", 30), 30, [][]int64{{0, 2}}},
		{strings.Repeat("ab", 30), 60, nil},
		{longWord(60), 12, [][]int64{{0, 5}}},
		{longWord(60), 13, nil},
	}
	for _, c := range cases {
		of := fmt.Sprintf("(%q, %d)", c.w, c.k)
		got, code := impl.PowersIn(c.w, c.k)
		wantPairs(t, "PowersIn"+of, got, code, c.want, impl.ErrNone)
		n, code := impl.CountPowers(c.w, c.k)
		wantNumber(t, "CountPowers"+of, n, code, int64(len(c.want)), impl.ErrNone)
	}
}

func TestPowersOutside(t *testing.T) {
	for _, w := range []string{"", "a", "aaaa", "aabaab", longWord(60)} {
		for _, k := range []int64{1, 0, -1, -2, 61, 62, math.MaxInt64, math.MinInt64, math.MinInt64 + 2} {
			of := fmt.Sprintf("(%q, %d)", w, k)
			got, code := impl.PowersIn(w, k)
			wantPairs(t, "PowersIn"+of, got, code, nil, impl.ErrRange)
			n, code := impl.CountPowers(w, k)
			wantNumber(t, "CountPowers"+of, n, code, 0, impl.ErrRange)
		}
	}
}

func TestPowersAsDefined(t *testing.T) {
	for _, w := range periodicWords() {
		for _, k := range []int{2, 3, 4, 5, 6, 7, 12, 29, 30, 31, 59, 60} {
			of := fmt.Sprintf("(%q, %d)", w, k)
			want := powersAsDefined(w, k)
			got, code := impl.PowersIn(w, int64(k))
			wantPairs(t, "PowersIn"+of, got, code, want, impl.ErrNone)
			n, code := impl.CountPowers(w, int64(k))
			wantNumber(t, "CountPowers"+of, n, code, int64(len(want)), impl.ErrNone)
		}
	}
}

// Promise 3: powers told are powers. The factor told is the power of its root, as chapter 1 has it.
func TestPromisePowersToldArePowers(t *testing.T) {
	for _, w := range periodicWords() {
		for _, k := range []int64{2, 3, 4, 10, 30, 60} {
			powers, code := impl.PowersIn(w, k)
			if code != impl.ErrNone {
				t.Fatalf("PowersIn(%q, %d): code %d", w, k, code)
			}
			for _, power := range powers {
				root, code := impl.FactorAt(w, power[0], power[1])
				if code != impl.ErrNone || root == "" {
					t.Fatalf("PowersIn(%q, %d) tells of %v, where no root is", w, k, power)
				}
				want, _ := impl.PowerOf(root, k)
				got, code := impl.FactorAt(w, power[0], k*power[1])
				wantWord(t, fmt.Sprintf("the power of %d of %q at %d", k, w, power[0]), got, code, want, impl.ErrNone)
			}
		}
	}
}

func TestSquaresOf(t *testing.T) {
	cases := map[string][]string{
		"aaaabb":                      {"aa", "aaaa", "bb"},
		"bbaaaa":                      {"aa", "aaaa", "bb"},
		"aa":                          {"aa"},
		"aaa":                         {"aa"},
		"aabaab":                      {"aa", "aabaab"},
		"ababab":                      {"abab", "baba"},
		"abcab":                       nil,
		"cbcbcaa":                     {"aa", "bcbc", "cbcb"},
		longWord(14):                  {"abcdeabcde", "bcdeabcdea", "cdeabcdeab", "deabcdeabc", "eabcdeabcd"},
		longWord(10):                  {"abcdeabcde"},
		longWord(9):                   nil,
		strings.Repeat("ab", 3) + "b": {"abab", "baba", "bb"},
	}
	for w, want := range cases {
		got, code := impl.SquaresOf(w)
		wantList(t, fmt.Sprintf("SquaresOf(%q)", w), got, code, want, impl.ErrNone)
	}
	for _, w := range periodicWords() {
		var want []string
		for _, square := range powersAsDefined(w, 2) {
			want = append(want, w[square[0]:square[0]+2*square[1]])
		}
		slices.Sort(want)
		got, code := impl.SquaresOf(w)
		wantList(t, fmt.Sprintf("SquaresOf(%q)", w), got, code, slices.Compact(want), impl.ErrNone)
	}
}

func TestFirstSquare(t *testing.T) {
	cases := []struct {
		w          string
		i, q, code int64
	}{
		{"abcbcb", 1, 2, impl.ErrNone},
		{"abcacb", 0, 0, impl.ErrNotFound},
		{"aa", 0, 1, impl.ErrNone},
		{"baa", 1, 1, impl.ErrNone},
		{"abcabdd", 5, 1, impl.ErrNone},
		{"abacabac", 0, 4, impl.ErrNone},
		{"abcabc", 0, 3, impl.ErrNone},
		// Longer ones that begin before it end behind it.
		{"abaaba", 2, 1, impl.ErrNone},
		{"baabcbaabc", 1, 1, impl.ErrNone},
		{"abcdbdbabcdbdb", 3, 2, impl.ErrNone},
		{longWord(60), 0, 5, impl.ErrNone},
		{longWord(9), 0, 0, impl.ErrNotFound},
		{longWord(10), 0, 5, impl.ErrNone},
		{strings.Repeat("a", 60), 0, 1, impl.ErrNone},
	}
	for _, c := range cases {
		i, q, code := impl.FirstSquare(c.w)
		wantList(t, fmt.Sprintf("FirstSquare(%q)", c.w), []int64{i, q}, code, []int64{c.i, c.q}, c.code)
	}
	triple, _ := impl.NamedWord("triple", 59)
	last := triple[58:]
	i, q, code := impl.FirstSquare(triple + last)
	wantList(t, "FirstSquare of a word with its only square at its end", []int64{i, q}, code, []int64{58, 1}, impl.ErrNone)
}

func TestFirstSquareAsDefined(t *testing.T) {
	for _, w := range periodicWords() {
		squares := powersAsDefined(w, 2)
		want, wantCode := []int64{0, 0}, int64(impl.ErrNotFound)
		for _, square := range squares {
			end, first := square[0]+2*square[1], want[0]+2*want[1]
			if wantCode != impl.ErrNone || end < first || end == first && square[1] < want[1] {
				want, wantCode = square, impl.ErrNone
			}
		}
		i, q, code := impl.FirstSquare(w)
		wantList(t, fmt.Sprintf("FirstSquare(%q)", w), []int64{i, q}, code, want, wantCode)
	}
}

func TestOverlapsIn(t *testing.T) {
	cases := map[string][][]int64{
		"ababa":                   {{0, 2}},
		"abab":                    nil,
		"aaa":                     {{0, 1}},
		"aaaa":                    {{0, 1}, {1, 1}},
		"aaaaa":                   {{0, 1}, {0, 2}, {1, 1}, {2, 1}},
		"ababab":                  {{0, 2}, {1, 2}},
		"abbabaabbaaba":           nil,
		"baaab":                   {{1, 1}},
		"abcabca":                 {{0, 3}},
		"abcabcb":                 nil,
		longWord(11):              {{0, 5}},
		longWord(10):              nil,
		"aa" + longWord(10) + "a": {{0, 1}, {2, 5}},
	}
	for w, want := range cases {
		got, code := impl.OverlapsIn(w)
		wantPairs(t, fmt.Sprintf("OverlapsIn(%q)", w), got, code, want, impl.ErrNone)
		free, code := impl.IsOverlapFree(w)
		wantAnswer(t, fmt.Sprintf("IsOverlapFree(%q)", w), free, code, want == nil, impl.ErrNone)
	}
}

// The guarantee: overlaps are behind squares. They are those squares that have the first letter of their word behind them.
func TestGuaranteeOverlapsAreBehindSquares(t *testing.T) {
	for _, w := range periodicWords() {
		squares, code := impl.PowersIn(w, 2)
		if code != impl.ErrNone {
			t.Fatalf("PowersIn(%q, 2): code %d", w, code)
		}
		var want [][]int64
		for _, square := range squares {
			i, q := square[0], square[1]
			if i+2*q < int64(len(w)) && w[i+2*q] == w[i] {
				want = append(want, square)
			}
		}
		got, code := impl.OverlapsIn(w)
		wantPairs(t, fmt.Sprintf("OverlapsIn(%q)", w), got, code, want, impl.ErrNone)
		free, code := impl.IsOverlapFree(w)
		wantAnswer(t, fmt.Sprintf("IsOverlapFree(%q)", w), free, code, len(want) == 0, impl.ErrNone)
	}
}

// The word with the name "thue" is known to be overlap free, and "triple" to be square free; the others have both.
func TestRepeatsOfNamedWords(t *testing.T) {
	free := map[string][2]bool{"thue": {false, true}, "triple": {true, true}, "fibonacci": {false, false}, "doubling": {false, false}}
	for name, want := range free {
		w, _ := impl.NamedWord(name, impl.MaxWord)
		squareFree, code := impl.IsSquareFree(w)
		wantAnswer(t, "IsSquareFree of "+name, squareFree, code, want[0], impl.ErrNone)
		overlapFree, code := impl.IsOverlapFree(w)
		wantAnswer(t, "IsOverlapFree of "+name, overlapFree, code, want[1], impl.ErrNone)
	}
}

func TestRunsOf(t *testing.T) {
	cases := map[string][]impl.Run{
		"aabaabb":                     {{From: 0, To: 2, Period: 1}, {From: 0, To: 6, Period: 3}, {From: 3, To: 5, Period: 1}, {From: 5, To: 7, Period: 1}},
		"aa":                          {{From: 0, To: 2, Period: 1}},
		"aaaa":                        {{From: 0, To: 4, Period: 1}},
		"abab":                        {{From: 0, To: 4, Period: 2}},
		"ababa":                       {{From: 0, To: 5, Period: 2}},
		"cababac":                     {{From: 1, To: 6, Period: 2}},
		"abcabcab":                    {{From: 0, To: 8, Period: 3}},
		"abcab":                       nil,
		"aabb":                        {{From: 0, To: 2, Period: 1}, {From: 2, To: 4, Period: 1}},
		"abaababaab":                  {{From: 0, To: 6, Period: 3}, {From: 0, To: 10, Period: 5}, {From: 2, To: 4, Period: 1}, {From: 3, To: 8, Period: 2}, {From: 7, To: 9, Period: 1}},
		"bbabbb":                      {{From: 0, To: 2, Period: 1}, {From: 3, To: 6, Period: 1}},
		longWord(60):                  {{From: 0, To: 60, Period: 5}},
		longWord(9):                   nil,
		longWord(10):                  {{From: 0, To: 10, Period: 5}},
		strings.Repeat("a", 60):       {{From: 0, To: 60, Period: 1}},
		longWord(30) + longWord(30):   {{From: 0, To: 60, Period: 5}},
		"e" + strings.Repeat("a", 59): {{From: 1, To: 60, Period: 1}},
	}
	for w, want := range cases {
		got, code := impl.RunsOf(w)
		wantList(t, fmt.Sprintf("RunsOf(%q)", w), got, code, want, impl.ErrNone)
	}
}

// runsAsDefined returns the runs of w, looked for among all factors.
func runsAsDefined(w string) []impl.Run {
	var runs []impl.Run
	for from := range w {
		for to := from + 1; to <= len(w); to++ {
			q := shortestPeriod(w[from:to])
			longer := from > 0 && isPeriod(w[from-1:to], q) || to < len(w) && isPeriod(w[from:to+1], q)
			if to-from >= 2*q && !longer {
				runs = append(runs, impl.Run{From: int64(from), To: int64(to), Period: int64(q)})
			}
		}
	}
	return runs
}

func TestRunsAsDefined(t *testing.T) {
	for _, w := range periodicWords() {
		got, code := impl.RunsOf(w)
		wantList(t, fmt.Sprintf("RunsOf(%q)", w), got, code, runsAsDefined(w), impl.ErrNone)
	}
}

// Promise 15: runs have the least periods of their factors. The guarantee: they have exponents of at least 2.
func TestPromiseRunsHaveLeastPeriods(t *testing.T) {
	for _, w := range periodicWords() {
		runs, code := impl.RunsOf(w)
		if code != impl.ErrNone {
			t.Fatalf("RunsOf(%q): code %d", w, code)
		}
		for _, run := range runs {
			factor, code := impl.FactorAt(w, run.From, run.To-run.From)
			if code != impl.ErrNone || factor == "" {
				t.Fatalf("RunsOf(%q) tells of %v, where no factor is", w, run)
			}
			periods, _ := impl.PeriodsOf(factor)
			wantNumber(t, fmt.Sprintf("the period of the run %v of %q", run, w), run.Period, code, periods[0], impl.ErrNone)
			n, p, code := impl.ExponentOf(factor)
			if n < 2*p || code != impl.ErrNone {
				t.Errorf("the run %v of %q has the exponent %d / %d", run, w, n, p)
			}
		}
	}
}

// Each square is in a run the period of which divides its root length, and words without runs are square free.
func TestSquaresAreInRuns(t *testing.T) {
	for _, w := range periodicWords() {
		runs, _ := impl.RunsOf(w)
		squares, _ := impl.PowersIn(w, 2)
		for _, square := range squares {
			in := slices.ContainsFunc(runs, func(run impl.Run) bool {
				return run.From <= square[0] && square[0]+2*square[1] <= run.To && square[1]%run.Period == 0
			})
			if !in {
				t.Errorf("the square %v of %q is in none of the runs %v", square, w, runs)
			}
		}
		free, code := impl.IsSquareFree(w)
		wantAnswer(t, fmt.Sprintf("IsSquareFree(%q)", w), free, code, len(runs) == 0, impl.ErrNone)
	}
}

func TestGreatestExponent(t *testing.T) {
	cases := []struct {
		w    string
		n, p int64
	}{
		{"a", 1, 1},
		{"abc", 1, 1},
		{"abacaba", 7, 4},
		{"aabaaba", 7, 3},
		{"aaa", 3, 1},
		{"ab", 1, 1},
		{"aba", 3, 2},
		{"abcab", 5, 3},
		{"abcacb", 3, 2},
		{"abab", 2, 1},
		{"cababac", 5, 2},
		{"abcabcabc", 3, 1},
		// The greatest one is that of neither the longest run nor the whole.
		{"abcabcabbbb", 4, 1},
		{"eabcdeabcdaa", 2, 1},
		{"abcdeabcd", 9, 5},
		{longWord(60), 12, 1},
		{longWord(59), 59, 5},
		{strings.Repeat("a", 60), 60, 1},
		{strings.Repeat("a", 59) + "b", 59, 1},
		{strings.Repeat("ab", 29) + "a", 59, 2},
		{strings.Repeat("ab", 30), 30, 1},
	}
	for _, c := range cases {
		n, p, code := impl.GreatestExponent(c.w)
		wantList(t, fmt.Sprintf("GreatestExponent(%q)", c.w), []int64{n, p}, code, []int64{c.n, c.p}, impl.ErrNone)
	}
}

func TestGreatestExponentAsDefined(t *testing.T) {
	for _, w := range periodicWords() {
		if w == "" {
			continue
		}
		n, p := 1, 1
		for from := range w {
			for to := from + 1; to <= len(w); to++ {
				q := shortestPeriod(w[from:to])
				if (to-from)*p > n*q {
					n, p = to-from, q
				}
			}
		}
		d := divisor(int64(n), int64(p))
		gotN, gotP, code := impl.GreatestExponent(w)
		wantList(t, fmt.Sprintf("GreatestExponent(%q)", w), []int64{gotN, gotP}, code, []int64{int64(n) / d, int64(p) / d}, impl.ErrNone)
	}
}

// Promise 3: square free words have exponents below 2. Words that are not square free have some of at least 2.
func TestPromiseSquareFreeWordsHaveSmallExponents(t *testing.T) {
	for _, w := range append(someSquareFree(t), periodicWords()...) {
		free, code := impl.IsSquareFree(w)
		wantAnswer(t, fmt.Sprintf("IsSquareFree(%q)", w), free, code, !hasSquare(w), impl.ErrNone)
		if w == "" {
			continue
		}
		n, p, code := impl.GreatestExponent(w)
		if p < 1 || (n < 2*p) != free || code != impl.ErrNone {
			t.Errorf("%q has the greatest exponent %d / %d, code %d, and IsSquareFree tells %v", w, n, p, code, free)
		}
		for m := int64(1); free && m <= int64(len(w)); m++ {
			factors, _ := impl.FactorsOf(w, m)
			for _, factor := range factors {
				if n, p, code := impl.ExponentOf(factor); n >= 2*p || code != impl.ErrNone {
					t.Errorf("%q is square free, but %q has the exponent %d / %d", w, factor, n, p)
				}
			}
		}
	}
}

func TestIsSquareFree(t *testing.T) {
	cases := map[string]bool{
		"abcacbabcbc": false, "abcacbabc": true, "aa": false, "ab": true, "abab": false, "aba": true, "abcabc": false, "abcab": true,
		"abacabadabacaba": true, "abacabadabacabad": false, longWord(9): true, longWord(10): false, longWord(60): false,
	}
	for w, want := range cases {
		got, code := impl.IsSquareFree(w)
		wantAnswer(t, fmt.Sprintf("IsSquareFree(%q)", w), got, code, want, impl.ErrNone)
	}
	for _, w := range someSquareFree(t) {
		got, code := impl.IsSquareFree(w)
		wantAnswer(t, fmt.Sprintf("IsSquareFree(%q)", w), got, code, true, impl.ErrNone)
	}
	// A square of the greatest root length that a word may have.
	half, _ := impl.NamedWord("triple", 29)
	got, code := impl.IsSquareFree(strings.Repeat(half+"d", 2))
	wantAnswer(t, "IsSquareFree of a square of 60 letters", got, code, false, impl.ErrNone)
	got, code = impl.IsSquareFree(strings.Repeat(half+"d", 2)[1:])
	wantAnswer(t, "IsSquareFree of a square but its first letter", got, code, true, impl.ErrNone)
}

// squareFreeAsDefined returns the square free words of m letters with the first k letters alone, in order.
func squareFreeAsDefined(m int, k int) []string {
	words := []string{""}
	for range m {
		var longer []string
		for _, w := range words {
			for _, letter := range "abcde"[:k] {
				if next := w + string(letter); !hasSquare(next) {
					longer = append(longer, next)
				}
			}
		}
		words = longer
	}
	return words
}

func TestCountSquareFree(t *testing.T) {
	known := map[int64][]int64{
		1: {1, 1, 0, 0, 0, 0, 0, 0, 0, 0, 0, 0, 0},
		2: {1, 2, 2, 2, 0, 0, 0, 0, 0, 0, 0, 0, 0},
		3: {1, 3, 6, 12, 18, 30, 42, 60, 78, 108, 144, 204, 264},
	}
	for k, counts := range known {
		for m, want := range counts {
			got, code := impl.CountSquareFree(int64(m), k)
			wantNumber(t, fmt.Sprintf("CountSquareFree(%d, %d)", m, k), got, code, want, impl.ErrNone)
			wantNumber(t, fmt.Sprintf("CountSquareFree(%d, %d)", m, k), got, code, int64(len(squareFreeAsDefined(m, int(k)))), impl.ErrNone)
		}
	}
	outside := [][2]int64{{-1, 3}, {13, 3}, {13, 1}, {12, 0}, {12, 4}, {0, 0}, {0, 4}, {3, -1}, {-1, 0}, {13, 4}, {3, 5},
		{math.MaxInt64, 3}, {math.MinInt64, 3}, {3, math.MaxInt64}, {3, math.MinInt64}, {math.MaxInt64, math.MaxInt64}}
	for _, c := range outside {
		got, code := impl.CountSquareFree(c[0], c[1])
		wantNumber(t, fmt.Sprintf("CountSquareFree%v", c), got, code, 0, impl.ErrRange)
	}
}

func TestFirstSquareFree(t *testing.T) {
	cases := []struct {
		m, k int64
		want string
		code int64
	}{
		{8, 3, "abacabca", impl.ErrNone},
		{0, 1, "", impl.ErrNone},
		{0, 5, "", impl.ErrNone},
		{1, 1, "a", impl.ErrNone},
		{2, 1, anError, impl.ErrNotFound},
		{30, 1, anError, impl.ErrNotFound},
		{3, 2, "aba", impl.ErrNone},
		{4, 2, anError, impl.ErrNotFound},
		{30, 2, anError, impl.ErrNotFound},
		{7, 4, "abacaba", impl.ErrNone},
		{8, 4, "abacabad", impl.ErrNone},
		{15, 4, "abacabadabacaba", impl.ErrNone},
		{30, 5, "abacabadabacabaeabacabadabacab", impl.ErrNone},
		{31, 3, anError, impl.ErrRange},
		{31, 1, anError, impl.ErrRange},
		{-1, 3, anError, impl.ErrRange},
		{30, 0, anError, impl.ErrRange},
		{30, 6, anError, impl.ErrRange},
		{0, 0, anError, impl.ErrRange},
		{0, 6, anError, impl.ErrRange},
		{2, -1, anError, impl.ErrRange},
		{31, 6, anError, impl.ErrRange},
		{math.MaxInt64, 3, anError, impl.ErrRange},
		{math.MinInt64, 3, anError, impl.ErrRange},
		{3, math.MaxInt64, anError, impl.ErrRange},
		{3, math.MinInt64, anError, impl.ErrRange},
	}
	for _, c := range cases {
		got, code := impl.FirstSquareFree(c.m, c.k)
		wantWord(t, fmt.Sprintf("FirstSquareFree(%d, %d)", c.m, c.k), got, code, c.want, c.code)
	}
}

func TestFirstSquareFreeAsDefined(t *testing.T) {
	limits := map[int]int{1: 30, 2: 30, 3: 22, 4: 9, 5: 7}
	for k, limit := range limits {
		for m := range limit + 1 {
			want, wantCode := anError, int64(impl.ErrNotFound)
			if words := squareFreeAsDefined(m, k); len(words) > 0 {
				want, wantCode = words[0], impl.ErrNone
			}
			got, code := impl.FirstSquareFree(int64(m), int64(k))
			wantWord(t, fmt.Sprintf("FirstSquareFree(%d, %d)", m, k), got, code, want, wantCode)
		}
	}
}

// The first word has its length and its letters, and is square free; a longer one does not come before it.
func TestFirstSquareFreeWordsAreSquareFree(t *testing.T) {
	for k := int64(3); k <= impl.MaxLetters; k++ {
		before := ""
		for m := int64(0); m <= 30; m++ {
			w, code := impl.FirstSquareFree(m, k)
			of := fmt.Sprintf("FirstSquareFree(%d, %d)", m, k)
			if code != impl.ErrNone || int64(len(w)) != m || strings.Trim(w, "abcde"[:k]) != "" || hasSquare(w) {
				t.Errorf("%s = %q, %d", of, w, code)
			}
			if w < before {
				t.Errorf("%s = %q, but a shorter one is %q", of, w, before)
			}
			before = w
		}
	}
}

func TestLettersNext(t *testing.T) {
	triple, _ := impl.NamedWord("triple", 60)
	cases := []struct {
		w    string
		k    int64
		want []int64
		code int64
	}{
		{"aba", 3, []int64{2}, impl.ErrNone},
		{"aba", 2, nil, impl.ErrNone},
		{"aba", 5, []int64{2, 3, 4}, impl.ErrNone},
		{"", 1, []int64{0}, impl.ErrNone},
		{"", 5, []int64{0, 1, 2, 3, 4}, impl.ErrNone},
		{"a", 1, nil, impl.ErrNone},
		{"a", 3, []int64{1, 2}, impl.ErrNone},
		// A word may have letters beside the first k ones.
		{"e", 1, []int64{0}, impl.ErrNone},
		{"ecd", 2, []int64{0, 1}, impl.ErrNone},
		{"abacaba", 3, nil, impl.ErrNone},
		{"abacaba", 4, []int64{3}, impl.ErrNone},
		{"abcdeabcd", 5, []int64{0, 1, 2}, impl.ErrNone},
		{triple, 3, nil, impl.ErrNone},
		{triple, 5, nil, impl.ErrNone},
		// One letter less than a word may have: it goes on as the word with the name does, or with letters that are new to it.
		{triple[:59], 5, []int64{2, 3, 4}, impl.ErrNone},
		{"aa", 3, nil, impl.ErrNotFound},
		{"baab", 5, nil, impl.ErrNotFound},
		{strings.Repeat("a", 60), 3, nil, impl.ErrNotFound},
		{longWord(60), 5, nil, impl.ErrNotFound},
		{"ab", 0, nil, impl.ErrRange},
		{"ab", 6, nil, impl.ErrRange},
		{"", 0, nil, impl.ErrRange},
		{"ab", -1, nil, impl.ErrRange},
		{"ab", math.MaxInt64, nil, impl.ErrRange},
		{"ab", math.MinInt64, nil, impl.ErrRange},
		{"aa", 0, nil, impl.ErrRange},
		{"aa", 6, nil, impl.ErrRange},
		{triple, 6, nil, impl.ErrRange},
	}
	for _, c := range cases {
		got, code := impl.LettersNext(c.w, c.k)
		wantList(t, fmt.Sprintf("LettersNext(%q, %d)", c.w, c.k), got, code, c.want, c.code)
	}
}

// lettersThatGoOn returns the numbers of the first k letters that stand behind w in a square free word.
func lettersThatGoOn(w string, k int) []int64 {
	var numbers []int64
	for number, letter := range "abcde"[:k] {
		if !hasSquare(w + string(letter)) {
			numbers = append(numbers, int64(number))
		}
	}
	return numbers
}

func TestLettersNextAsDefined(t *testing.T) {
	for _, w := range append(someSquareFree(t), periodicWords()...) {
		for k := 1; k <= impl.MaxLetters; k++ {
			var want []int64
			if len(w) < impl.MaxWord {
				want = lettersThatGoOn(w, k)
			}
			wantCode := int64(impl.ErrNone)
			if hasSquare(w) {
				want, wantCode = nil, impl.ErrNotFound
			}
			got, code := impl.LettersNext(w, int64(k))
			wantList(t, fmt.Sprintf("LettersNext(%q, %d)", w, k), got, code, want, wantCode)
		}
	}
}

func TestResultsOfPowersAreNew(t *testing.T) {
	resultsAreNew(t, "RunsOf", func() ([]impl.Run, int64) { return impl.RunsOf("aabaabb") }, impl.Run{From: 77})
	resultsAreNew(t, "SquaresOf", func() ([]string, int64) { return impl.SquaresOf("aabaabb") }, "x")
	resultsAreNew(t, "LettersNext", func() ([]int64, int64) { return impl.LettersNext("aba", 5) }, 77)
	lists := map[string]func() ([][]int64, int64){
		"PowersIn":   func() ([][]int64, int64) { return impl.PowersIn("aabaabaab", 2) },
		"OverlapsIn": func() ([][]int64, int64) { return impl.OverlapsIn("aabaabaab") },
	}
	for call, list := range lists {
		pairsAreNew(t, call, list)
	}
}

// pairsAreNew tests that no pair of a result is changed by growing and changing another one, or by changing another result.
func pairsAreNew(t *testing.T, call string, list func() ([][]int64, int64)) {
	t.Helper()
	want, _ := list()
	got, _ := list()
	if len(want) < 2 {
		t.Fatalf("%s: %v, too few pairs", call, want)
	}
	for i := range want {
		want[i] = append(want[i], 77)
		want[i][0] = 77
	}
	again, code := list()
	wantPairs(t, call, got, code, again, impl.ErrNone)
	for i, pair := range again {
		if len(pair) != 2 || want[i][1] != pair[1] {
			t.Errorf("%s: pair %d is %v, and %v behind a change of others", call, i, pair, want[i])
		}
	}
}
