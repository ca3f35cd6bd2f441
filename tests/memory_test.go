package tests

import (
	"slices"
	"strings"
	"testing"
	"unsafe"

	"loop.example/g01371/impl"
)

// sharesMemory reports whether two texts have a byte of memory in common.
func sharesMemory(x string, y string) bool {
	if x == "" || y == "" {
		return false
	}
	from := uintptr(unsafe.Pointer(unsafe.StringData(x)))
	other := uintptr(unsafe.Pointer(unsafe.StringData(y)))
	return from < other+uintptr(len(y)) && other < from+uintptr(len(x))
}

// Words of chapter 2 that are results are new memory, and no two Lyndon parts have memory in common.
func TestWordsOfPeriodsAreNewMemory(t *testing.T) {
	for _, w := range []string{"abaababaabcabc", "aab", "baabab", "aaaa", "abab", "a", "edcba"} {
		w = strings.Clone(w)
		root, _, _ := impl.RootOf(w)
		least, _, _ := impl.LeastTurned(w)
		unbordered, _ := impl.LongestUnbordered(w)
		parts, _ := impl.LyndonParts(w)
		for _, word := range append([]string{root, least, unbordered}, parts...) {
			if word == "" || sharesMemory(word, w) {
				t.Errorf("%q is memory of %q", word, w)
			}
		}
		for i, part := range parts {
			for _, other := range parts[:i] {
				if sharesMemory(part, other) {
					t.Errorf("parts of %q, %q and %q, have memory in common", w, part, other)
				}
			}
		}
	}
}

// Squares are new memory, also a word that is one itself, and no two have memory in common.
func TestSquaresAreNewMemory(t *testing.T) {
	for _, w := range []string{"aa", "abaababaabaab", "aaaaaa", "abab", "abcabcabc"} {
		w = strings.Clone(w)
		squares, code := impl.SquaresOf(w)
		if code != impl.ErrNone || len(squares) == 0 {
			t.Fatalf("SquaresOf(%q) = %v, %d", w, squares, code)
		}
		wordsAreNew(t, w, squares)
	}
}

// wordsAreNew tests that the words of a result are not memory of w, from which they come, and have none in common.
func wordsAreNew(t *testing.T, w string, words []string) {
	t.Helper()
	for i, word := range words {
		if sharesMemory(word, w) {
			t.Errorf("%q is memory of %q", word, w)
		}
		for _, other := range words[:i] {
			if sharesMemory(word, other) {
				t.Errorf("words of %q, %q and %q, have memory in common", w, word, other)
			}
		}
	}
}

// Palindromes, parts and closures are new memory, also of a word that is a palindrome itself.
func TestPalindromesAreNewMemory(t *testing.T) {
	for _, w := range []string{"abaab", "aabaa", "aaaa", "abca", "a", "ebe", "abaababaabaab"} {
		w = strings.Clone(w)
		palindromes, _ := impl.PalindromesOf(w)
		parts, _ := impl.FewestParts(w)
		longest, _, _ := impl.LongestPalindrome(w)
		closure, _ := impl.ClosureOf(w)
		directed, _ := impl.DirectedWord(w[:min(len(w), 6)])
		for _, words := range [][]string{palindromes, parts, {longest}, {closure}, {directed}} {
			if len(words) == 0 || words[0] == "" {
				t.Errorf("%q: a result is empty: %v", w, words)
			}
			wordsAreNew(t, w, words)
		}
	}
}

// Special factors, return words and common factors are new memory, also where a factor is the word itself.
func TestFactorsAreNewMemory(t *testing.T) {
	for _, w := range []string{"abaab", "bbabaa", "abaababaabaab", "aabaab", "ebebeeb"} {
		w = strings.Clone(w)
		right, _ := impl.RightSpecial(w, 1)
		left, _ := impl.LeftSpecial(w, 1)
		both, _ := impl.Bispecial(w, 1)
		returned, _ := impl.ReturnWords(w, w[:1])
		whole, _ := impl.LongestCommonFactor(w, w)
		part, _ := impl.LongestCommonFactor(w, w[1:3])
		for _, words := range [][]string{right, left, both, returned, {whole}, {part}} {
			if len(words) == 0 || words[0] == "" {
				t.Errorf("%q: a result is empty: %v", w, words)
			}
			wordsAreNew(t, w, words)
		}
	}
}

// Images, grown words and texts are new memory, also where they are equal to an argument or to an image.
func TestMorphismsAreNewMemory(t *testing.T) {
	// Clones, as equal constants of a program may be the same memory.
	w := strings.Clone("aaaaaaaaaa")
	one := impl.Morphism{Images: []string{strings.Clone("aaa")}}
	same := impl.Morphism{Images: []string{strings.Clone("a"), strings.Clone("b")}}
	text := strings.Clone("abbbb,ba,ca,,ddd")
	image, _ := impl.ImageOf(same, w)
	iterate, _ := impl.IterateOf(one, w, 0)
	composed, _ := impl.ComposeMorphisms(same, impl.Morphism{Images: []string{w, w}})
	grown, _ := impl.GrownWord(one, 0, 3)
	beginning, _ := impl.GrownWord(one, 0, 2)
	found, _ := impl.WordFromImage(same, w)
	only, _ := impl.MorphismText(one)
	parsed, code := impl.ParseMorphism(text)
	if code != impl.ErrNone {
		t.Fatalf("ParseMorphism(%q): code %d", text, code)
	}
	words := append([]string{image, iterate, grown, beginning, found, only}, composed.Images...)
	words = append(words, parsed.Images...)
	for _, argument := range append([]string{w, text, one.Images[0]}, same.Images...) {
		wordsAreNew(t, argument, words)
	}
	if len(words) != 13 || image != w || iterate != w || found != w || only != "aaa" {
		t.Errorf("the words are %q", words)
	}
}

// Sorted words are new memory, also of a word that is sorted, and no two words with a vector have memory in common.
func TestWordsByLettersAreNewMemory(t *testing.T) {
	for _, w := range []string{"aabcc", "cabac", "aaaa", "ab", "ba", "e"} {
		w = strings.Clone(w)
		sorted, _ := impl.SortedWord(w)
		counts, _ := impl.CountLetters(w)
		words, _ := impl.WordsWith(counts)
		for _, list := range [][]string{words, {sorted}} {
			if len(list) == 0 || list[0] == "" {
				t.Errorf("%q: a result is empty: %q", w, list)
			}
			wordsAreNew(t, w, list)
		}
	}
}

// Cuts are new memory, and words of slopes, of lists and of paths, and balanced words, have none in common.
func TestWordsOfSlopesAreNewMemory(t *testing.T) {
	for _, w := range []string{"aabab", "ab", "abb", "aabaabab", "aaaaaaaab"} {
		w = strings.Clone(w)
		u, v, _ := impl.CutOf(w)
		p, q, _ := impl.SlopeOfWord(w)
		same, _ := impl.WordOfSlope(p, q)
		stepped, _ := impl.SteppedWord(q, p+q, 0, p+q)
		if u+v != w || same != w || stepped != w {
			t.Errorf("%q: the words are %q, %q, %q and %q", w, u, v, same, stepped)
		}
		wordsAreNew(t, w, []string{u, v, same, stepped})
	}
	var words []string
	for range 2 {
		for _, list := range [][]int64{nil, {0}, {1}, {1, 1, 1}} {
			standard, _ := impl.StandardWord(list)
			words = append(words, standard)
		}
		central, _ := impl.CentralWord(5, 3)
		path, _ := impl.PathOf(5, 3)
		balanced, _ := impl.BalancedWords(4)
		words = append(append(words, central, path), balanced...)
	}
	wordsAreNew(t, strings.Clone("a"), words)
	if len(words) != 40 || slices.Contains(words, "") {
		t.Errorf("the words are %q", words)
	}
}

// Covers, seeds, border words, pairs and grown words are new memory, also where they are equal to an argument.
func TestCoversAreNewMemory(t *testing.T) {
	for _, w := range []string{"abaababaabaab", "abaaba", "aaaa", "ababab", "aabaabaab", "bbabb"} {
		w = strings.Clone(w)
		covers, _ := impl.CoversOf(w)
		least, _ := impl.LeastCover(w)
		whole, _ := impl.SeedsOf(w, int64(len(w)))
		seeds, _ := impl.SeedsOf(w, int64(len(w)-1))
		seed, _ := impl.LeastSeed(w)
		border, _, _ := impl.BestBorder(w)
		same, _ := impl.GrowByCover(w, nil)
		longer, _ := impl.GrowByCover(w, []int64{0})
		if len(covers) == 0 || least == "" || len(whole) != 1 || seed == "" || border == "" || same != w || longer != w+w {
			t.Errorf("%q: a result is empty, or not the word", w)
		}
		for _, words := range [][]string{covers, whole, seeds, {least, seed, border, same, longer}} {
			wordsAreNew(t, w, words)
		}
	}
	// A least cover and a least seed that are the word, and pairs that are most of it.
	w := strings.Clone("aaab")
	least, _ := impl.LeastCover(w)
	seed, _ := impl.LeastSeed(w)
	two, _ := impl.FirstTwo(w, 3)
	if least != w || seed != w || len(two) != 2 {
		t.Errorf("%q: the words are %q, %q and %q", w, least, seed, two)
	}
	wordsAreNew(t, w, append(two, least, seed))
}

// Values of patterns are new memory, also where they are the word or a single letter, and no two have memory in common.
func TestValuesOfPatternsAreNewMemory(t *testing.T) {
	for _, c := range []struct{ w, p string }{
		{"abaab", "ABA"}, {"abcabc", "CBCB"}, {"aaaaaaaa", "ABACABA"}, {"eabcabc", "AA"}, {"aa", "AB"}, {"a", "C"}, {"abcdabcd", "CABCAB"},
	} {
		// A string that is made from a single byte may be memory that other ones have, too.
		w := string([]byte(c.w))
		_, values, code := impl.FirstPlace(w, c.p)
		if code != impl.ErrNone || len(values) == 0 || values[0] == "" {
			t.Errorf("FirstPlace(%q, %q): %q, %d", w, c.p, values, code)
		}
		wordsAreNew(t, w, values)
	}
}

// The parts of desks and the outputs are new memory, also where a line changes nothing, or is a word or the output itself.
func TestDesksAreNewMemory(t *testing.T) {
	lines := []string{"show", "word cab", "word abaab", "word a", "add ", "reverse", "turn 0", "cut 0 5", "image", "pattern C", "pattern AA", "morphism a", "morphism b,a",
		"look", "see", "parts", "place", "none", "ok", "yes", "error", "5", "0", "fly", "reset"}
	for _, constant := range lines {
		// The line is tried as a constant, too: equal constants of a program may be the same memory.
		for _, line := range []string{constant, strings.Clone(constant)} {
			d := impl.Desk{Word: strings.Clone("abaab"), Pattern: strings.Clone("AA"), Morphism: impl.Morphism{Images: []string{"ab", strings.Clone("a")}}}
			after, output := impl.RunLine(d, line)
			results := append([]string{after.Word, after.Pattern, output}, after.Morphism.Images...)
			for _, argument := range append([]string{d.Word, d.Pattern, line}, d.Morphism.Images...) {
				wordsAreNew(t, argument, results)
			}
			last, _ := impl.DeskAfter(line)
			wordsAreNew(t, line, append([]string{last.Word, last.Pattern, impl.Console(line)}, last.Morphism.Images...))
		}
	}
}

// Words that are results are new memory, also where they are equal to an argument or to a part of it.
func TestWordsAreNewMemory(t *testing.T) {
	w := strings.Clone("abaababaabcabc")
	u := strings.Clone("babaabcabc")
	var words []string
	keep := func(word string, code int64) {
		if code != impl.ErrNone {
			t.Fatalf("word %d: code %d", len(words), code)
		}
		words = append(words, word)
	}
	keep(impl.ProductOf(w, ""))
	keep(impl.ProductOf("", u))
	keep(impl.PowerOf(w, 1))
	keep(impl.ReverseOf(w))
	keep(impl.TurnWord(w, 0))
	keep(impl.TurnWord(w, int64(len(w))))
	keep(impl.RenameLetters(w, []int64{0, 1, 2, 3, 4}))
	keep(impl.FactorAt(w, 0, int64(len(w))))
	keep(impl.FactorAt(w, 2, 5))
	keep(impl.CommonBeginning(w, w))
	keep(impl.CommonEnd(w, u))
	for _, m := range []int64{4, int64(len(w))} {
		factors, _ := impl.FactorsOf(w, m)
		words = append(words, factors...)
	}
	for i, word := range words {
		if sharesMemory(word, w) || sharesMemory(word, u) {
			t.Errorf("word %d, %q, is memory of an argument", i, word)
		}
	}
}
