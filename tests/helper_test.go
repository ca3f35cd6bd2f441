package tests

import (
	"slices"
	"strings"
	"testing"

	"loop.example/g01371/impl"
)

// anError marks a case in which only the code matters: every other result has to be the zero value.
const anError = ""

// notWords are strings that are not words, each for another reason: a letter too many, bytes beside the letters,
// bytes that are no letters of any text, and one letter more than a word may have.
var notWords = []string{"f", "abf", "fab", "A", "`", "a b", " ", "ab\n", "a\x00", "a\xff", "\u00e1", "\u0430", "1", strings.Repeat("a", 61)}

// allWords returns all words of at most n letters with the first k letters, shorter ones first.
func allWords(n int, k int) []string {
	all := []string{""}
	last := all
	for range n {
		var next []string
		for _, w := range last {
			for _, letter := range "abcde"[:k] {
				next = append(next, w+string(letter))
			}
		}
		all = append(all, next...)
		last = next
	}
	return all
}

// longWord returns a word of n letters that has all five of them if n is at least 5.
func longWord(n int) string {
	return strings.Repeat("abcde", 12)[:n]
}

// mixedWords are words of several lengths and letters, the empty word and words with the most letters among them.
func mixedWords() []string {
	return append(allWords(4, 3), "abcde", "edcba", "aaaaa", "abaababaabaab", longWord(20), longWord(40), longWord(59), longWord(60),
		strings.Repeat("a", 60), strings.Repeat("ab", 30), strings.Repeat("e", 59))
}

func wantWord(t *testing.T, call string, got string, code int64, want string, wantCode int64) {
	t.Helper()
	if got != want || code != wantCode {
		t.Errorf("%s = %q, %d, not %q, %d", call, got, code, want, wantCode)
	}
}

func wantWordAndNumber(t *testing.T, call string, got string, n int64, code int64, want string, wantNumber int64, wantCode int64) {
	t.Helper()
	if got != want || n != wantNumber || code != wantCode {
		t.Errorf("%s = %q, %d, %d, not %q, %d, %d", call, got, n, code, want, wantNumber, wantCode)
	}
}

func wantNumber(t *testing.T, call string, got int64, code int64, want int64, wantCode int64) {
	t.Helper()
	if got != want || code != wantCode {
		t.Errorf("%s = %d, %d, not %d, %d", call, got, code, want, wantCode)
	}
}

func wantAnswer(t *testing.T, call string, got bool, code int64, want bool, wantCode int64) {
	t.Helper()
	if got != want || code != wantCode {
		t.Errorf("%s = %v, %d, not %v, %d", call, got, code, want, wantCode)
	}
}

func wantList[T comparable](t *testing.T, call string, got []T, code int64, want []T, wantCode int64) {
	t.Helper()
	if !slices.Equal(got, want) || code != wantCode {
		t.Errorf("%s = %v, %d, not %v, %d", call, got, code, want, wantCode)
	}
}

// product returns the product of two words that may not fail.
func product(t *testing.T, w string, u string) string {
	t.Helper()
	out, code := impl.ProductOf(w, u)
	if code != impl.ErrNone {
		t.Fatalf("ProductOf(%q, %q): code %d", w, u, code)
	}
	return out
}
