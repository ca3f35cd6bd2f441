package tests

import (
	"fmt"
	"slices"
	"strconv"
	"strings"
	"testing"

	"loop.example/g01371/impl"
)

// deskOf returns the desk with a word, a pattern, and the morphism with a text, without the program's help.
func deskOf(w string, p string, text string) impl.Desk {
	return impl.Desk{Word: w, Pattern: p, Morphism: morphism(text)}
}

// deskWith returns the desk that is new but for its word.
func deskWith(w string) impl.Desk {
	return deskOf(w, "AA", "ab,a")
}

// deskText returns the three parts of a desk as one text.
func deskText(d impl.Desk) string {
	return fmt.Sprintf("{%q %q %q}", d.Word, d.Pattern, d.Morphism.Images)
}

// wantLine tests what a line on a desk leads to, and that it leaves the desk that it is given as it is.
func wantLine(t *testing.T, d impl.Desk, line string, after impl.Desk, output string) {
	t.Helper()
	before := deskText(d)
	got, gotOutput := impl.RunLine(d, line)
	if deskText(got) != deskText(after) || gotOutput != output {
		t.Errorf("RunLine(%s, %q) = %s, %q, not %s, %q", before, line, deskText(got), gotOutput, deskText(after), output)
	}
	if deskText(d) != before {
		t.Errorf("RunLine(%s, %q) makes %s of its argument", before, line, deskText(d))
	}
}

// wantOutput tests that a line changes nothing, and what it puts out.
func wantOutput(t *testing.T, d impl.Desk, line string, output string) {
	t.Helper()
	wantLine(t, d, line, d, output)
}

// wantWrong tests that a line has the output error, and changes nothing.
func wantWrong(t *testing.T, d impl.Desk, line string) {
	t.Helper()
	wantLine(t, d, line, d, "error")
}

// wantMade tests that a line changes the word of a desk alone, and puts it out.
func wantMade(t *testing.T, d impl.Desk, line string, w string) {
	t.Helper()
	after := d
	after.Word = w
	wantLine(t, d, line, after, `"`+w+`"`)
}

// someDesks are desks with short and long words of few and of many letters, several patterns, and several morphisms.
func someDesks() []impl.Desk {
	desks := []impl.Desk{
		deskWith("abaab"), deskWith(""), deskWith("a"), deskWith("b"), deskWith("e"), deskOf("", "C", ""), deskOf("abcab", "ABA", "b,ca,ab"),
		deskOf("aabab", "AB", "aab,bab"), deskOf("ababa", "BAB", "abc,ac,b"), deskOf("abca", "ABCABCAB", "a,b"), deskOf("edcba", "CBA", ",,,,"),
		deskOf("abacaba", "AABB", "a,b,c,d,e"), deskOf("aaaa", "AAAA", twelve), deskOf("aabb", "CC", ","), deskOf("abcabcabc", "ABAB", twelve+",b"),
		deskOf(longWord(60), "ABCCBA", "ab,bc,ca"), deskOf(longWord(31), "A", "abc,bca,cab,d,e"), deskOf(strings.Repeat("ab", 30), "ABBA", "aa,b"),
		deskOf(strings.Repeat("a", 60), "AAAAAAAA", "b,a"), deskOf(strings.Repeat("a", 59)+"b", "BBB", "ab,ba"),
	}
	for _, w := range allWords(3, 3) {
		desks = append(desks, deskOf(w, "ABB", "ab,ac,b"))
	}
	return desks
}

// notDesks are none, each for another reason.
func notDesks() []impl.Desk {
	list := []impl.Desk{{}, {Word: "abaab"}, {Word: "abaab", Pattern: "AA"}, {Pattern: "AA", Morphism: morphism("ab,a")}}
	list[3].Word = "x"
	list = append(list, impl.Desk{Word: "abaab", Morphism: morphism("ab,a")})
	for _, w := range notWords {
		list = append(list, deskWith(w))
	}
	for _, p := range notPatterns {
		list = append(list, deskOf("abaab", p, "ab,a"))
	}
	for _, h := range notMorphisms() {
		list = append(list, impl.Desk{Word: "abaab", Pattern: "AA", Morphism: h})
	}
	return list
}

// ordinaryLines are lines, one for each of the chapter's list, that put out something else than error on the new desk.
var ordinaryLines = []string{"word cab", "name fibonacci 8", "add ba", "reverse", "turn 2", "cut 1 3", "double 3 5", "close", "image", "back",
	"grow 0 6", "slope 3 2", "standard 1 1", "zimin 2", "pattern ABA", "morphism b,a", "show", "look", "see", "letters", "borders", "periods",
	"root", "exponent", "least", "critical", "lyndon", "unbordered", "palindromes", "defect", "longest", "parts", "closed", "privileged",
	"lengths 0 4", "primitive", "maker", "balanced", "list", "path 3 2", "has", "place", "avoid 3 6", "count 2 3", "unavoidable", "reset"}

func TestNewDesk(t *testing.T) {
	for range 2 {
		d := impl.NewDesk()
		if d.Word != "abaab" || d.Pattern != "AA" || !slices.Equal(d.Morphism.Images, []string{"ab", "a"}) {
			t.Fatalf("NewDesk() = %s", deskText(d))
		}
		text, code := impl.MorphismText(d.Morphism)
		wantWord(t, "MorphismText", text, code, "ab,a", impl.ErrNone)
		// The next new desk is new, whatever is done to this one.
		d.Morphism.Images[0], d.Morphism.Images[1] = "b", "b"
	}
}

func TestIsDesk(t *testing.T) {
	for _, d := range append(someDesks(), impl.NewDesk(), deskOf(longWord(60), "ABCABCAB", twelve+",b,c,d,e"), deskOf("", "A", "")) {
		if !impl.IsDesk(d) {
			t.Errorf("IsDesk(%s) is false", deskText(d))
		}
	}
	for _, d := range notDesks() {
		if impl.IsDesk(d) {
			t.Errorf("IsDesk(%s) is true", deskText(d))
		}
	}
}

// What is no desk is refused beside each line, right or wrong.
func TestRunLineWithoutDesk(t *testing.T) {
	lines := append([]string{"", " ", "fly", "word", "word f", "turn 01", "error"}, ordinaryLines...)
	for _, d := range notDesks() {
		before := deskText(d)
		for _, line := range lines {
			after, output := impl.RunLine(d, line)
			if deskText(after) != deskText(impl.Desk{}) || output != "" {
				t.Errorf("RunLine(%s, %q) = %s, %q", before, line, deskText(after), output)
			}
		}
		if deskText(d) != before {
			t.Errorf("lines make %s of %s", deskText(d), before)
		}
	}
}

func TestOrdinaryLines(t *testing.T) {
	first := map[string]bool{}
	for _, line := range ordinaryLines {
		first[strings.Split(line, " ")[0]] = true
		if _, output := impl.RunLine(impl.NewDesk(), line); output == "error" || output == "" {
			t.Errorf("%q has the output %q", line, output)
		}
	}
	if len(first) != 46 {
		t.Errorf("there are %d commands", len(first))
	}
}

func TestLinesThatMakeWords(t *testing.T) {
	sixty := longWord(60)
	cases := []struct {
		d    impl.Desk
		line string
		w    string
	}{
		{deskWith("abaab"), "word cab", "cab"},
		{deskWith("abaab"), "word ", ""},
		{deskWith(""), "word e", "e"},
		{deskWith("abaab"), "word abaab", "abaab"},
		{deskWith("abaab"), "word " + sixty, sixty},
		{deskWith("abaab"), "name fibonacci 8", "abaababa"},
		{deskWith("abaab"), "name thue 8", "abbabaab"},
		{deskWith("abaab"), "name doubling 8", "abaaabab"},
		{deskWith("abaab"), "name triple 9", "abcacbabc"},
		{deskWith("abaab"), "name thue 0", ""},
		{deskWith(""), "name doubling 1", "a"},
		{deskWith("abaab"), "name fibonacci 60", "abaababaabaababaababaabaababaabaababaababaabaababaababaabaab"},
		{deskWith("abaab"), "add ba", "abaabba"},
		{deskWith("abaab"), "add ", "abaab"},
		{deskWith(""), "add cde", "cde"},
		{deskWith(""), "add ", ""},
		{deskWith(sixty), "add ", sixty},
		{deskWith(longWord(58)), "add de", sixty},
		{deskWith("abaab"), "reverse", "baaba"},
		{deskWith("abcde"), "reverse", "edcba"},
		{deskWith(""), "reverse", ""},
		{deskWith("abaab"), "turn 0", "abaab"},
		{deskWith("abaab"), "turn 2", "aabab"},
		{deskWith("abaab"), "turn 5", "abaab"},
		{deskWith("abcde"), "turn 1", "bcdea"},
		{deskWith(""), "turn 0", ""},
		{deskWith(sixty), "turn 58", "de" + longWord(58)},
		{deskWith("abaab"), "cut 1 3", "baa"},
		{deskWith("abcde"), "cut 3 2", "de"},
		{deskWith("abcde"), "cut 2 3", "cde"},
		{deskWith("abaab"), "cut 0 5", "abaab"},
		{deskWith("abaab"), "cut 5 0", ""},
		{deskWith(""), "cut 0 0", ""},
		{deskWith(sixty), "cut 10 50", longWord(50)},
		{deskWith("abaab"), "double 3 5", "abaaba"},
		{deskWith("abaab"), "double 5 3", "abaaba"},
		{deskWith("abaab"), "double 1 1", ""},
		{deskWith("abaab"), "double 6 6", "abcde"},
		{deskWith(""), "double 2 4", "aba"},
		{deskWith("abaab"), "close", "abaaba"},
		{deskWith("abca"), "close", "abcacba"},
		{deskWith(""), "close", ""},
		{deskWith("abaab"), "image", "abaababa"},
		{deskWith("aba"), "image", "abaab"},
		{deskOf("abaab", "AA", "b,a"), "image", "babba"},
		{deskOf("abcab", "AA", "c,,ab"), "image", "cabc"},
		{deskWith(""), "image", ""},
		{deskWith(strings.Repeat("a", 30)), "image", strings.Repeat("ab", 30)},
		{deskWith("abaab"), "back", "aba"},
		{deskOf("babba", "AA", "b,a"), "back", "abaab"},
		{deskOf("aaa", "AA", "a,aa"), "back", "ab"},
		{deskWith(""), "back", ""},
		{deskWith("abaab"), "grow 0 6", "abaaba"},
		{deskWith("abaab"), "grow 0 0", ""},
		{deskOf("e", "A", "b,ba"), "grow 1 4", "babb"},
		{deskOf("e", "A", "a,b,ce,d,e"), "grow 2 5", "ceeee"},
		{deskWith("abaab"), "slope 3 2", "aabab"},
		{deskWith("abaab"), "slope 2 3", "ababb"},
		{deskWith("abaab"), "slope 1 0", "a"},
		{deskWith("abaab"), "slope 0 1", "b"},
		{deskWith(""), "slope 59 1", strings.Repeat("a", 59) + "b"},
		{deskWith("abaab"), "standard", "a"},
		{deskWith("abaab"), "standard 0", "b"},
		{deskWith("abaab"), "standard 2", "aab"},
		{deskWith("abaab"), "standard 1 1", "aba"},
		{deskWith("abaab"), "standard 1 2", "ababa"},
		{deskWith("abaab"), "standard 2 1", "aaba"},
		{deskWith("abaab"), "standard 1 1 1 1 1 1 1", namedFibonacci(34)},
		{deskWith(""), "standard 59", strings.Repeat("a", 59) + "b"},
		{deskWith("abaab"), "zimin 1", "a"},
		{deskWith("abaab"), "zimin 2", "aba"},
		{deskWith(""), "zimin 5", "abacabadabacabaeabacabadabacaba"},
	}
	for _, c := range cases {
		wantMade(t, c.d, c.line, c.w)
	}
}

// namedFibonacci returns the first n letters of the word with the name fibonacci, n at most 55, each part being the one before it with
// the one before that behind it.
func namedFibonacci(n int) string {
	before, word := "a", "ab"
	for len(word) < n {
		before, word = word, word+before
	}
	return word[:n]
}

func TestLinesThatMakePatternsAndMorphisms(t *testing.T) {
	for _, p := range []string{"A", "C", "AA", "ABA", "CBA", "ABCABCAB", "CCCCCCCC"} {
		for _, d := range []impl.Desk{impl.NewDesk(), deskOf("", "B", "")} {
			wantLine(t, d, "pattern "+p, deskOf(d.Word, p, strings.Join(d.Morphism.Images, ",")), `"`+p+`"`)
		}
	}
	texts := []string{"", ",", "a", "aa", "b,a", "ab,a", "abc,ac,b", ",,,,", "a,b,c,d,e", "edcba,,e,dd,abcde", twelve, twelve + ",bbbbbbbbbbbb"}
	for _, text := range texts {
		for _, d := range []impl.Desk{impl.NewDesk(), deskOf("edcba", "CBA", "")} {
			wantLine(t, d, "morphism "+text, deskOf(d.Word, d.Pattern, text), `"`+text+`"`)
		}
	}
}

func TestLinesThatShow(t *testing.T) {
	sixty := longWord(60)
	cases := []struct {
		d      impl.Desk
		line   string
		output string
	}{
		{impl.NewDesk(), "show", `"abaab"`},
		{deskWith(""), "show", `""`},
		{deskWith(sixty), "show", `"` + sixty + `"`},
		{impl.NewDesk(), "look", `"AA"`},
		{deskOf("e", "ABCABCAB", "a"), "look", `"ABCABCAB"`},
		{impl.NewDesk(), "see", `"ab,a"`},
		{deskOf("e", "A", ""), "see", `""`},
		{deskOf("e", "A", "a"), "see", `"a"`},
		{deskOf("e", "A", ",,ba,"), "see", `",,ba,"`},
		{impl.NewDesk(), "letters", "3 2 0 0 0"},
		{deskWith("edcbaee"), "letters", "1 1 1 1 3"},
		{deskWith(""), "letters", "0 0 0 0 0"},
		{deskWith(sixty), "letters", "12 12 12 12 12"},
		{impl.NewDesk(), "borders", "0 2"},
		{deskWith("aaaa"), "borders", "0 1 2 3"},
		{deskWith("ab"), "borders", "0"},
		{deskWith(""), "borders", "none"},
		{impl.NewDesk(), "periods", "3 5"},
		{deskWith("aaaa"), "periods", "1 2 3 4"},
		{deskWith(""), "periods", "none"},
		{impl.NewDesk(), "root", `"abaab" 1`},
		{deskWith("cabcab"), "root", `"cab" 2`},
		{deskWith(strings.Repeat("a", 60)), "root", `"a" 60`},
		{impl.NewDesk(), "exponent", "5 3"},
		{deskWith("abab"), "exponent", "2 1"},
		{impl.NewDesk(), "least", `"aabab" 2`},
		{deskWith("cba"), "least", `"acb" 2`},
		{deskWith(""), "least", `"" 0`},
		{impl.NewDesk(), "critical", "2 4"},
		{deskWith("aab"), "critical", "2"},
		{deskWith("aaa"), "critical", "1 2"},
		{deskWith("a"), "critical", "none"},
		{deskWith(""), "critical", "none"},
		{impl.NewDesk(), "lyndon", `"ab" "aab"`},
		{deskWith("aabab"), "lyndon", `"aabab"`},
		{deskWith("cba"), "lyndon", `"c" "b" "a"`},
		{deskWith(""), "lyndon", "none"},
		{impl.NewDesk(), "unbordered", `"baa"`},
		{deskWith("abcde"), "unbordered", `"abcde"`},
		{deskWith("aaa"), "unbordered", `"a"`},
		{impl.NewDesk(), "palindromes", `"a" "b" "aa" "aba" "baab"`},
		{deskWith("e"), "palindromes", `"e"`},
		{deskWith(""), "palindromes", "none"},
		{impl.NewDesk(), "defect", "0"},
		{deskWith("abca"), "defect", "1"},
		{deskWith(""), "defect", "0"},
		{impl.NewDesk(), "longest", `"baab" 1`},
		{deskWith("abc"), "longest", `"a" 0`},
		{impl.NewDesk(), "parts", `"a" "baab"`},
		{deskWith("abaaba"), "parts", `"abaaba"`},
		{deskWith("abc"), "parts", `"a" "b" "c"`},
		{deskWith(""), "parts", "none"},
		{impl.NewDesk(), "closed", "yes"},
		{deskWith("ab"), "closed", "no"},
		{deskWith("abcab"), "closed", "yes"},
		{deskWith(""), "closed", "yes"},
		{impl.NewDesk(), "privileged", "no"},
		{deskWith("abcab"), "privileged", "no"},
		{deskWith("aba"), "privileged", "yes"},
		{deskWith(""), "privileged", "yes"},
		{impl.NewDesk(), "lengths 0 4", "1 2 3 5 8"},
		{impl.NewDesk(), "lengths 1 4", "1 1 2 3 5"},
		{impl.NewDesk(), "lengths 0 0", "1"},
		{deskOf("e", "A", ",ba"), "lengths 0 2", "1 0 0"},
		{deskOf("e", "A", twelve), "lengths 0 13", "1 12 144 1728 20736 248832 2985984 35831808 429981696 5159780352 61917364224 743008370688 8916100448256 106993205379072"},
		{impl.NewDesk(), "primitive", "yes"},
		{deskOf("e", "A", "b,a"), "primitive", "no"},
		{deskOf("e", "A", ""), "primitive", "no"},
		{impl.NewDesk(), "maker", `"ba"`},
		{deskOf("e", "A", "aa"), "maker", `"a"`},
		{deskOf("e", "A", "ab,b"), "maker", `"ab"`},
		{impl.NewDesk(), "balanced", "yes"},
		{deskWith("aabb"), "balanced", "no"},
		{deskWith(""), "balanced", "yes"},
		{impl.NewDesk(), "list", "1 1 1"},
		{deskWith("aaab"), "list", "3"},
		{deskWith("b"), "list", "0"},
		{deskWith("a"), "list", "none"},
		{impl.NewDesk(), "path 3 2", `"ba"`},
		{impl.NewDesk(), "path 2 3", `"ab"`},
		{impl.NewDesk(), "path 1 3", `"aa"`},
		{impl.NewDesk(), "path 1 1", `""`},
		{impl.NewDesk(), "path 61 1", `"` + strings.Repeat("b", 60) + `"`},
		{impl.NewDesk(), "has", "yes"},
		{deskWith("abcab"), "has", "no"},
		{deskOf("abcab", "ABA", "a"), "has", "yes"},
		{deskWith(""), "has", "no"},
		{impl.NewDesk(), "place", `2 "a"`},
		{deskWith("cabab"), "place", `1 "ab"`},
		{deskOf("ebaab", "BAAB", "a"), "place", `1 "a" "b"`},
		{deskOf("edcba", "CBA", "a"), "place", `0 "c" "d" "e"`},
		{deskOf("dededd", "BAB", "a"), "place", `0 "e" "d"`},
		{impl.NewDesk(), "avoid 3 6", `"abacab"`},
		{impl.NewDesk(), "avoid 2 3", `"aba"`},
		{impl.NewDesk(), "avoid 1 0", `""`},
		{deskOf("e", "AAA", "a"), "avoid 2 6", `"aabaab"`},
		{impl.NewDesk(), "count 2 3", "2"},
		{impl.NewDesk(), "count 3 2", "6"},
		{impl.NewDesk(), "count 2 4", "0"},
		{impl.NewDesk(), "count 1 0", "1"},
		{deskOf("e", "ABCABCAB", "a"), "count 3 7", "2187"},
		{impl.NewDesk(), "unavoidable", "no"},
		{deskOf("e", "ABA", "a"), "unavoidable", "yes"},
		{deskOf("e", "ABACABA", "a"), "unavoidable", "yes"},
	}
	for _, c := range cases {
		wantOutput(t, c.d, c.line, c.output)
	}
}

func TestReset(t *testing.T) {
	for _, d := range someDesks() {
		wantLine(t, d, "reset", impl.NewDesk(), "ok")
	}
}

// Each function that can fail on a desk fails with each of its codes, if desks and numbers of lines can bring it there.
func TestLinesThatFunctionsRefuse(t *testing.T) {
	many := strings.Repeat(" 1", 21)
	cases := []struct {
		d     impl.Desk
		lines []string
	}{
		{impl.NewDesk(), []string{"word f", "word A", "word abf", "word AA", "word ab,a", "word 1", "word " + longWord(60) + "a"}},
		{impl.NewDesk(), []string{"name fibonacc 5", "name Fibonacci 5", "name fibonaccis 5", "name  5", "name fibonacci 61", "name thue 999999999"}},
		{impl.NewDesk(), []string{"add f", "add A", "add " + longWord(56), "add " + strings.Repeat("a", 61)}},
		{deskWith(longWord(60)), []string{"add a", "add abc", "image", "close"}},
		{impl.NewDesk(), []string{"turn 6", "turn 7", "turn 61", "turn 999999999"}},
		{deskWith(""), []string{"turn 1", "cut 0 1", "cut 1 0", "root", "exponent", "unbordered", "longest", "list", "place"}},
		{impl.NewDesk(), []string{"cut 6 0", "cut 0 6", "cut 3 3", "cut 5 1", "cut 999999999 0", "cut 0 999999999", "cut 999999999 999999999"}},
		{impl.NewDesk(), []string{"double 0 3", "double 3 0", "double 61 1", "double 1 61", "double 60 60", "double 7 7", "double 50 37"}},
		{deskWith(strings.Repeat("a", 31)), []string{"image"}},
		{deskWith(longWord(31)), []string{"close"}},
		{deskWith("abc"), []string{"image", "back", "list", "place"}},
		{deskWith("b"), []string{"back"}},
		{deskWith("bb"), []string{"back", "list"}},
		{deskOf("a", "A", ""), []string{"back", "grow 0 0", "grow 0 1", "grow 1 1", "maker"}},
		{impl.NewDesk(), []string{"grow 2 1", "grow 1 1", "grow 1 0", "grow 0 61", "grow 6 0", "grow 999999999 1", "grow 0 999999999"}},
		{impl.NewDesk(), []string{"slope 0 0", "slope 2 4", "slope 0 2", "slope 60 1", "slope 1 60", "slope 1001 1", "slope 1 1001", "slope 999999999 1"}},
		{impl.NewDesk(), []string{"standard 61", "standard 0 0", "standard 1 0", "standard 60", "standard 7 7 7", "standard" + many, "standard 1 61"}},
		{impl.NewDesk(), []string{"zimin 0", "zimin 6", "zimin 999999999"}},
		{impl.NewDesk(), []string{"pattern D", "pattern a", "pattern AA,", "pattern ABCABCABC", "pattern ab", "pattern A1"}},
		{impl.NewDesk(), []string{"morphism b", "morphism a,c", "morphism ,,,,,", "morphism a,b,c,d,e,a", "morphism ab;a", "morphism A", "morphism " + twelve + "a"}},
		{impl.NewDesk(), []string{"lengths 2 1", "lengths 5 1", "lengths 0 21", "lengths 999999999 1", "lengths 0 999999999"}},
		{deskOf("a", "A", twelve), []string{"lengths 0 14", "lengths 0 20", "lengths 1 1"}},
		{deskOf("a", "A", "ab,"), []string{"maker"}},
		{deskOf("a", "A", twelve+",b"), []string{"maker"}},
		{deskOf("a", "A", "a,b"), []string{"maker"}},
		{deskOf("aabab", "A", "a,b,c"), []string{"maker", "list"}},
		{impl.NewDesk(), []string{"path 0 1", "path 1 0", "path 0 0", "path 2 4", "path 3 3", "path 62 1", "path 1 62", "path 1001 1", "path 1 1001"}},
		{deskOf("abcab", "ABAB", "a"), []string{"place", "list"}},
		{impl.NewDesk(), []string{"avoid 0 3", "avoid 4 3", "avoid 3 13", "avoid 2 4", "avoid 1 2", "avoid 999999999 1", "avoid 1 999999999"}},
		{impl.NewDesk(), []string{"count 0 3", "count 4 3", "count 3 10", "count 999999999 1", "count 1 999999999"}},
	}
	for _, c := range cases {
		for _, line := range c.lines {
			wantWrong(t, c.d, line)
		}
	}
}

// Lines whose functions have no error for any desk put something out at all desks.
func TestLinesThatNothingRefuses(t *testing.T) {
	lines := []string{"reverse", "show", "look", "see", "letters", "borders", "periods", "least", "critical", "lyndon", "palindromes", "defect",
		"parts", "closed", "privileged", "primitive", "balanced", "has", "unavoidable", "reset", "add ", "turn 0", "cut 0 0", "word ", "standard"}
	for _, d := range someDesks() {
		for _, line := range lines {
			if _, output := impl.RunLine(d, line); output == "error" || output == "" {
				t.Errorf("RunLine(%s, %q) puts out %q", deskText(d), line, output)
			}
		}
	}
}

// putOut returns results as a line puts them out, and error beside a code.
func putOut(code int64, results ...any) string {
	if code != impl.ErrNone {
		return "error"
	}
	var texts []string
	for _, result := range results {
		switch r := result.(type) {
		case string:
			texts = append(texts, strconv.Quote(r))
		case []string:
			texts = append(texts, strings.Trim(fmt.Sprintf("%q", r), "[]"))
		case []int64:
			texts = append(texts, strings.Trim(fmt.Sprint(r), "[]"))
		case bool:
			texts = append(texts, map[bool]string{true: "yes", false: "no"}[r])
		default:
			texts = append(texts, fmt.Sprint(r))
		}
	}
	if len(texts) == 1 && texts[0] == "" {
		return "none"
	}
	return strings.Join(texts, " ")
}

// shownAsListed returns the outputs of the lines without numbers that change nothing.
func shownAsListed(d impl.Desk) map[string]string {
	outputs := map[string]string{"show": putOut(0, d.Word), "look": putOut(0, d.Pattern)}
	put := func(line string, results ...any) {
		last := len(results) - 1
		outputs[line] = putOut(results[last].(int64), results[:last]...)
	}
	two := func(x any, code int64) []any { return []any{x, code} }
	three := func(x any, y any, code int64) []any { return []any{x, y, code} }
	put("see", two(impl.MorphismText(d.Morphism))...)
	put("letters", two(impl.CountLetters(d.Word))...)
	put("borders", two(impl.BordersOf(d.Word))...)
	put("periods", two(impl.PeriodsOf(d.Word))...)
	put("root", three(impl.RootOf(d.Word))...)
	put("exponent", three(impl.ExponentOf(d.Word))...)
	put("least", three(impl.LeastTurned(d.Word))...)
	put("critical", two(impl.CriticalPlaces(d.Word))...)
	put("lyndon", two(impl.LyndonParts(d.Word))...)
	put("unbordered", two(impl.LongestUnbordered(d.Word))...)
	put("palindromes", two(impl.PalindromesOf(d.Word))...)
	put("defect", two(impl.DefectOf(d.Word))...)
	put("longest", three(impl.LongestPalindrome(d.Word))...)
	put("parts", two(impl.FewestParts(d.Word))...)
	put("closed", two(impl.IsClosedWord(d.Word))...)
	put("privileged", two(impl.IsPrivileged(d.Word))...)
	put("primitive", two(impl.IsPrimitive(d.Morphism))...)
	put("maker", two(impl.FirstSquareMaker(d.Morphism))...)
	put("balanced", two(impl.IsBalancedWord(d.Word))...)
	put("list", two(impl.ListOfStandard(d.Word))...)
	put("has", two(impl.HasPattern(d.Word, d.Pattern))...)
	put("place", three(impl.FirstPlace(d.Word, d.Pattern))...)
	put("unavoidable", two(impl.IsUnavoidable(d.Pattern))...)
	return outputs
}

// shownByNumbers returns the outputs of the lines with two numbers that change nothing.
func shownByNumbers(d impl.Desk, k int64, l int64) map[string]string {
	lengths, lengthsCode := impl.LengthsAfter(d.Morphism, k, l)
	path, pathCode := impl.PathOf(k, l)
	first, firstCode := impl.FirstAvoiding(d.Pattern, k, l)
	count, countCode := impl.CountAvoiding(d.Pattern, k, l)
	return map[string]string{
		"lengths": putOut(lengthsCode, lengths),
		"path":    putOut(pathCode, path),
		"avoid":   putOut(firstCode, first),
		"count":   putOut(countCode, count),
	}
}

// A made word is one that a line makes, with the code behind it.
type madeWord struct {
	w    string
	code int64
}

// result returns a made word of the results of a function.
func result(w string, code int64) madeWord {
	return madeWord{w, code}
}

// madeAsListed returns what the lines with the numbers k and l, as many as they take, make of the word.
func madeAsListed(d impl.Desk, k int64, l int64) map[string]madeWord {
	one, two := fmt.Sprint(" ", k), fmt.Sprint(" ", k, " ", l)
	return map[string]madeWord{
		"reverse":              result(impl.ReverseOf(d.Word)),
		"turn" + one:           result(impl.TurnWord(d.Word, k)),
		"cut" + two:            result(impl.FactorAt(d.Word, k, l)),
		"double" + two:         result(impl.DoubleWord(k, l)),
		"close":                result(impl.ClosureOf(d.Word)),
		"image":                result(impl.ImageOf(d.Morphism, d.Word)),
		"back":                 result(impl.WordFromImage(d.Morphism, d.Word)),
		"grow" + two:           result(impl.GrownWord(d.Morphism, k, l)),
		"slope" + two:          result(impl.WordOfSlope(k, l)),
		"standard":             result(impl.StandardWord(nil)),
		"standard" + one:       result(impl.StandardWord([]int64{k})),
		"standard" + two:       result(impl.StandardWord([]int64{k, l})),
		"standard" + two + one: result(impl.StandardWord([]int64{k, l, k})),
		"zimin" + one:          result(impl.ZiminWord(k)),
		"name fibonacci" + one: result(impl.NamedWord("fibonacci", k)),
		"name thue" + one:      result(impl.NamedWord("thue", k)),
		"name doubling" + one:  result(impl.NamedWord("doubling", k)),
		"name triple" + one:    result(impl.NamedWord("triple", k)),
		"name ab" + one:        result(impl.NamedWord("ab", k)),
	}
}

// What lines put out and make is what the functions of the list return for the parts of the desk, on many desks and with many numbers.
func TestLinesAsListed(t *testing.T) {
	for _, d := range someDesks() {
		for line, output := range shownAsListed(d) {
			wantOutput(t, d, line, output)
		}
		for k := range int64(8) {
			for l := range int64(8) {
				for line, made := range madeAsListed(d, k, l) {
					if made.code != impl.ErrNone {
						wantWrong(t, d, line)
					} else {
						wantMade(t, d, line, made.w)
					}
				}
				for line, output := range shownByNumbers(d, k, l) {
					wantOutput(t, d, fmt.Sprint(line, " ", k, " ", l), output)
				}
			}
		}
	}
}

// Texts of lines become parts of the desk just if they are what is asked for.
func TestTextsAsListed(t *testing.T) {
	texts := slices.Concat(notPatterns, longPatterns, allPatterns(2), allWords(2, 5), []string{"", ",", "a,b", "ab,a", ",,,,", ",,,,,", longWord(60),
		"none", "ok", "yes", `"a"`, `"`, "error", "0", "5"})
	for _, text := range append(texts, notWords...) {
		// A blank inside makes two words of a text, and so a word too many.
		apart := strings.Contains(text, " ")
		for _, d := range []impl.Desk{impl.NewDesk(), deskOf("", "ABC", "b,a,c")} {
			word, pattern := d, d
			wordOutput, patternOutput, addOutput := "error", "error", "error"
			if impl.IsWord(text) && !apart {
				word.Word, wordOutput = text, `"`+text+`"`
			}
			if impl.IsPattern(text) && !apart {
				pattern.Pattern, patternOutput = text, `"`+text+`"`
			}
			wantLine(t, d, "word "+text, word, wordOutput)
			wantLine(t, d, "pattern "+text, pattern, patternOutput)
			longer := d
			if sum, code := impl.ProductOf(d.Word, text); code == impl.ErrNone && !apart {
				longer.Word, addOutput = sum, `"`+sum+`"`
			}
			wantLine(t, d, "add "+text, longer, addOutput)
			changed, changedOutput := d, "error"
			if h, code := impl.ParseMorphism(text); code == impl.ErrNone && !apart {
				changed.Morphism, changedOutput = h, `"`+text+`"`
			}
			wantLine(t, d, "morphism "+text, changed, changedOutput)
		}
	}
}

// A line that lacks a word, or has one too many, be it empty, is wrong, also if the function behind it would take what there is.
func TestWordsMissingAndTooMany(t *testing.T) {
	missing := []string{"word", "name", "name thue", "name 5", "add", "turn", "cut", "cut 1", "double", "double 3", "grow", "grow 0", "slope",
		"slope 3", "zimin", "pattern", "morphism", "lengths", "lengths 0", "path", "path 3", "avoid", "avoid 3", "count", "count 2"}
	for _, line := range missing {
		wantWrong(t, impl.NewDesk(), line)
		wantWrong(t, deskOf("", "C", ""), line)
	}
	for _, line := range ordinaryLines {
		wantWrong(t, impl.NewDesk(), line+" ")
		wantWrong(t, impl.NewDesk(), line+"  ")
		wantWrong(t, impl.NewDesk(), " "+line)
		wantWrong(t, impl.NewDesk(), "  "+line)
		wantWrong(t, impl.NewDesk(), line+" a")
		wantWrong(t, impl.NewDesk(), line+" A")
		if !strings.HasPrefix(line, "standard") {
			wantWrong(t, impl.NewDesk(), line+" 0")
			wantWrong(t, impl.NewDesk(), line+" 1")
		}
	}
	for _, line := range []string{"word a b", "word a ", "word  a", "word  ", "add  ba", "pattern A B", "pattern A ", "pattern  A", "morphism ab, a",
		"morphism ab ,a", "morphism  ab,a", "name thue 5 ", "name thue  5", "name  thue 5", "name thue fibonacci 5", "name  ", "turn 2 2", "turn  2",
		"cut 1  3", "cut  1 3", "cut 1 3 1", "standard ", "standard  ", "standard 1  1", "standard  1", "standard 1 ", "reset 1", "show a"} {
		wantWrong(t, impl.NewDesk(), line)
		wantWrong(t, deskOf("", "C", ""), line)
	}
}

// An empty text is a text like others: a word, what is put behind the word, and a morphism with one empty image, but no pattern or name.
func TestTextsThatAreEmpty(t *testing.T) {
	d := deskOf("cab", "ABA", "b,a,c")
	wantMade(t, d, "word ", "")
	wantMade(t, d, "add ", "cab")
	wantLine(t, d, "morphism ", deskOf("cab", "ABA", ""), `""`)
	wantWrong(t, d, "pattern ")
	wantWrong(t, d, "name  5")
	wantWrong(t, d, "name  0")
}

// numberLines are lines with a number left open, marked #, each with a number that it takes on the new desk.
var numberLines = []struct {
	line   string
	number int64
}{
	{"name thue #", 5}, {"name triple #", 0}, {"turn #", 2}, {"turn #", 0}, {"cut # 2", 1}, {"cut 1 #", 2}, {"cut 0 #", 0}, {"double # 5", 3},
	{"double 3 #", 5}, {"grow # 6", 0}, {"grow 0 #", 6}, {"slope # 2", 3}, {"slope 3 #", 2}, {"slope # 1", 0}, {"standard #", 2},
	{"standard # 1", 0}, {"standard 1 #", 1}, {"standard 1 # 1", 1}, {"zimin #", 2}, {"lengths # 4", 1}, {"lengths 0 #", 4}, {"path # 2", 3},
	{"path 3 #", 2}, {"avoid # 6", 3}, {"avoid 3 #", 6}, {"count # 3", 2}, {"count 2 #", 3},
}

// Numbers that are put differently are none, also where their value would do, or where it would if it were cut to fewer bits.
func TestNumbersThatAreNone(t *testing.T) {
	for _, c := range numberLines {
		digits := strconv.FormatInt(c.number, 10)
		right := strings.Replace(c.line, "#", digits, 1)
		if _, output := impl.RunLine(impl.NewDesk(), right); output == "error" {
			t.Errorf("%q has the output error", right)
		}
		wrong := []string{"", "0" + digits, "00" + digits, "00", "01", "+" + digits, "-" + digits, "-1", "-0", "+0", "--1", "+", "-", digits + ".0",
			digits + ".", digits + "e0", "0x" + digits, "0b1", "0o1", digits + "_0", "1_0", "a", "A", digits + "a", digits + "\t", "\t" + digits,
			digits + "\n", digits + "\r", digits + "\x00", "\u0661", "\uff11", "\xff", "2,", "'2'", `"2"`, "1/1", ":", "/", strings.Repeat("0", 9) + digits,
			strings.Repeat("0", 8) + digits, strings.Repeat("0", 30) + digits}
		// Ten digits, and numbers from which a wrong way to read them would make the right one.
		for _, shift := range []uint{32, 33, 34, 62} {
			wrong = append(wrong, strconv.FormatInt(1<<shift+c.number, 10))
		}
		wrong = append(wrong, "1000000000", "9999999999", "9223372036854775807", "9223372036854775808", strings.Repeat("9", 100),
			"184467440737095516"+strconv.FormatInt(16+c.number, 10), "-18446744073709551616", strings.Repeat("1", 5000))
		for _, number := range wrong {
			wantWrong(t, impl.NewDesk(), strings.Replace(c.line, "#", number, 1))
		}
		// Nine digits are a number, but one that is too great for all lines.
		for _, number := range []string{"100000000", "999999999"} {
			wantWrong(t, impl.NewDesk(), strings.Replace(c.line, "#", number, 1))
		}
	}
}

// Of many numbers each has to be one.
func TestNumbersOfLists(t *testing.T) {
	wantMade(t, impl.NewDesk(), "standard 0 1 1 1 1 1 1 1", standardFrom(t, 0, 1, 1, 1, 1, 1, 1, 1))
	for place := range 8 {
		for _, number := range []string{"", "01", "-1", "+1", "a", "1000000000", "0x1"} {
			numbers := strings.Split("0 1 1 1 1 1 1 1", " ")
			numbers[place] = number
			wantWrong(t, impl.NewDesk(), "standard "+strings.Join(numbers, " "))
		}
	}
	// As many numbers as a list may have, and many more: both lead to words that are too long, and do not fail in another way.
	wantWrong(t, impl.NewDesk(), "standard"+strings.Repeat(" 1", 20))
	wantWrong(t, impl.NewDesk(), "standard"+strings.Repeat(" 1", 1000))
}

// standardFrom returns the standard word of a list.
func standardFrom(t *testing.T, list ...int64) string {
	t.Helper()
	w, code := impl.StandardWord(list)
	if code != impl.ErrNone {
		t.Fatalf("StandardWord(%d): code %d", list, code)
	}
	return w
}

// Lines that are none of the list, with bytes beside letters and blanks among them.
func TestLinesThatAreNone(t *testing.T) {
	lines := []string{"", " ", "  ", "\t", "\n", "\r", "\x00", "\xff", "fly", "Show", "SHOW", "shows", "sho", "show\t", "\tshow", "show\n", "\nshow", "show\r",
		"show\x00", "show\xff", "show,", "show;look", "show\nlook", "\u0441how", "show\u00a0", "show\u2003", "\ufeffshow", "word\ta", "word\na", "word a\n",
		"word a\r", "word a\x00", "word \xff", "word \u00e1", "word \u0430", "turn\t2", "turn 2\n", "name\tthue 5", "name thue\t5", "name thue\n 5",
		"pattern A\n", "pattern \u0410", "pattern A\x00", "morphism ab,a\n", "morphism ab\xff,a", "morphism ab,\ta", "error", "ok", "none", "yes", "5", "0",
		"help", "exit", "closure", "W", "P", "H", "TEXT", "show, look, see", "borders,", "standard\t1", "standard 1\t1", "reset\n", "\"show\"", "#",
		strings.Repeat("show", 1000), strings.Repeat(" ", 5000), strings.Repeat("show ", 2000), strings.Repeat("\n", 100), strings.Repeat("x", 100000)}
	for _, line := range lines {
		for _, d := range []impl.Desk{impl.NewDesk(), deskOf("", "C", ""), deskOf(longWord(60), "ABCABCAB", "a,b,c,d,e")} {
			wantWrong(t, d, line)
		}
	}
}

// Each byte behind the word show, ahead of it, and in its place makes a wrong line, unless it is part of another one.
func TestLinesWithEachByte(t *testing.T) {
	for b := range 256 {
		text := string([]byte{byte(b)})
		wantWrong(t, impl.NewDesk(), text)
		wantWrong(t, impl.NewDesk(), "show"+text)
		wantWrong(t, impl.NewDesk(), text+"show")
		wantWrong(t, impl.NewDesk(), "sh"+text+"ow")
		if b != ' ' {
			wantWrong(t, impl.NewDesk(), "turn"+text+"2")
		}
		if b >= 'a' && b <= 'e' {
			wantMade(t, impl.NewDesk(), "word "+text, text)
		} else {
			wantWrong(t, impl.NewDesk(), "word "+text)
		}
		if b >= '0' && b <= '5' {
			wantMade(t, deskWith("aaaaa"), "turn "+text, "aaaaa")
		} else {
			wantWrong(t, deskWith("aaaaa"), "turn "+text)
		}
	}
}

func wantConsole(t *testing.T, text string, outputs string, after impl.Desk) {
	t.Helper()
	if got := impl.Console(text); got != outputs {
		t.Errorf("Console(%q) = %q, not %q", text, got, outputs)
	}
	got, ok := impl.DeskAfter(text)
	if !ok || deskText(got) != deskText(after) {
		t.Errorf("DeskAfter(%q) = %s, %v, not %s", text, deskText(got), ok, deskText(after))
	}
}

func wantRefusedText(t *testing.T, text string) {
	t.Helper()
	if got := impl.Console(text); got != "" {
		t.Errorf("Console(%q) = %q", text, got)
	}
	got, ok := impl.DeskAfter(text)
	if ok || deskText(got) != deskText(impl.Desk{}) {
		t.Errorf("DeskAfter(%q) = %s, %v", text, deskText(got), ok)
	}
}

func TestConsole(t *testing.T) {
	cases := []struct {
		text    string
		outputs string
		after   impl.Desk
	}{
		{"show\nlook\nsee\n", "\"abaab\"\n\"AA\"\n\"ab,a\"\n", impl.NewDesk()},
		{"word abca\ndefect\nclose\ndefect\n", "\"abca\"\n1\n\"abcacba\"\n1\n", deskWith("abcacba")},
		{"word \nroot\nletters\nparts\n", "\"\"\nerror\n0 0 0 0 0\nnone\n", deskWith("")},
		{"fly\nshow", "error\n\"abaab\"\n", impl.NewDesk()},
		{"word f\nword c\nword g\nadd d\nadd D\nshow", "error\n\"c\"\nerror\n\"cd\"\nerror\n\"cd\"\n", deskWith("cd")},
		{"pattern ABA\nplace\nmorphism b,a\nimage\nplace\nhas", "\"ABA\"\n0 \"a\" \"b\"\n\"b,a\"\n\"babba\"\n0 \"b\" \"a\"\nyes\n",
			deskOf("babba", "ABA", "b,a")},
		{"morphism ab,ba\ngrow 0 8\nback\nback\nback\nback\nback", "\"ab,ba\"\n\"abbabaab\"\n\"abba\"\n\"ab\"\n\"a\"\nerror\nerror\n", deskOf("a", "AA", "ab,ba")},
		{"standard 1 2\nlist\nslope 2 3\nreverse\nturn 1\ncut 1 3\n", "\"ababa\"\n1 2\n\"ababb\"\n\"bbaba\"\n\"babab\"\n\"aba\"\n", deskWith("aba")},
		{"pattern C\nmorphism \nword e\nreset\nsee\n", "\"C\"\n\"\"\n\"e\"\nok\n\"ab,a\"\n", impl.NewDesk()},
		{"reset\nname triple 9\nzimin 3", "ok\n\"abcacbabc\"\n\"abacaba\"\n", deskWith("abacaba")},
	}
	for _, c := range cases {
		wantConsole(t, c.text, c.outputs, c.after)
	}
}

// The last newline may be missing, and empty lines are left out, but not lines of blanks or of other bytes.
func TestNewlinesOfTexts(t *testing.T) {
	wantConsole(t, "", "", impl.NewDesk())
	wantConsole(t, "\n", "", impl.NewDesk())
	wantConsole(t, "\n\n\n", "", impl.NewDesk())
	shown := "\"e\"\n\"e\"\n"
	for _, text := range []string{"word e\nshow", "word e\nshow\n", "word e\nshow\n\n", "\nword e\nshow", "\n\n\nword e\n\n\nshow\n\n\n", "word e\n\nshow"} {
		wantConsole(t, text, shown, deskWith("e"))
	}
	wantConsole(t, "show", "\"abaab\"\n", impl.NewDesk())
	wantConsole(t, "show\n", "\"abaab\"\n", impl.NewDesk())
	wantConsole(t, " ", "error\n", impl.NewDesk())
	wantConsole(t, " \n", "error\n", impl.NewDesk())
	wantConsole(t, "\n \n", "error\n", impl.NewDesk())
	wantConsole(t, "word e\n \nshow \n show\n\tshow", "\"e\"\nerror\nerror\nerror\nerror\n", deskWith("e"))
	// Just the byte 10 ends a line.
	wantConsole(t, "show\r\nlook\r\n", "error\nerror\n", impl.NewDesk())
	wantConsole(t, "show\rlook", "error\n", impl.NewDesk())
	wantConsole(t, "\r\n", "error\n", impl.NewDesk())
	wantConsole(t, "show\x00look\vsee\flook\u0085see\u2028look", "error\n", impl.NewDesk())
	// An empty text at the end of a line is not an empty line.
	wantConsole(t, "word \n\nmorphism ", "\"\"\n\"\"\n", deskOf("", "AA", ""))
}

func TestMaxConsole(t *testing.T) {
	if impl.MaxConsole != 4000 || impl.MaxLines != 40 {
		t.Fatalf("the limits are %d and %d", impl.MaxConsole, impl.MaxLines)
	}
	// The text takes the bytes that it has, and those of one long wrong line behind it.
	filled := func(text string, n int) string {
		return text + strings.Repeat("x", n-len(text))
	}
	wantConsole(t, filled("word e\n", 4000), "\"e\"\nerror\n", deskWith("e"))
	wantConsole(t, filled("word e\n", 3999)+"\n", "\"e\"\nerror\n", deskWith("e"))
	wantConsole(t, filled("", 4000), "error\n", impl.NewDesk())
	wantConsole(t, strings.Repeat(" ", 4000), "error\n", impl.NewDesk())
	wantConsole(t, strings.Repeat("\xff", 4000), "error\n", impl.NewDesk())
	wantRefusedText(t, filled("word e\n", 4001))
	wantRefusedText(t, filled("word e\n", 4000)+"\n")
	wantRefusedText(t, filled("", 4001))
	wantRefusedText(t, filled("", 100000))
	wantRefusedText(t, strings.Repeat(" ", 4001))
	// Bytes are counted, and not what they may stand for in a text.
	wantConsole(t, strings.Repeat("\u00e1", 2000), "error\n", impl.NewDesk())
	wantRefusedText(t, strings.Repeat("\u00e1", 2000)+"x")
	wantRefusedText(t, strings.Repeat("\u00e1", 4000))
	// Forty lines that have a hundred bytes each with their newlines, and one byte more.
	line := "standard" + strings.Repeat(" 1", 45) + "a\n"
	if len(line) != 100 {
		t.Fatalf("the line has %d bytes", len(line))
	}
	wantConsole(t, strings.Repeat(line, 40), strings.Repeat("error\n", 40), impl.NewDesk())
	wantRefusedText(t, "x"+strings.Repeat(line, 40))
}

func TestMaxLines(t *testing.T) {
	shown := "\"abaab\"\n"
	for _, n := range []int{1, 2, 39, 40} {
		text := strings.Repeat("show\n", n)
		wantConsole(t, text, strings.Repeat(shown, n), impl.NewDesk())
		wantConsole(t, text[:len(text)-1], strings.Repeat(shown, n), impl.NewDesk())
		// Empty lines alone, and one line behind empty ones.
		wantConsole(t, strings.Repeat("\n", n), "", impl.NewDesk())
		wantConsole(t, strings.Repeat("\n", n-1)+"show", shown, impl.NewDesk())
		wantConsole(t, strings.Repeat("\n", n-1)+"show\n", shown, impl.NewDesk())
		wantConsole(t, "show\n"+strings.Repeat("\n", n-1), shown, impl.NewDesk())
		wantConsole(t, strings.Repeat("fly\n", n), strings.Repeat("error\n", n), impl.NewDesk())
	}
	for _, n := range []int{41, 42, 100, 1000} {
		text := strings.Repeat("show\n", n)
		wantRefusedText(t, text[:min(len(text), 4000)])
		wantRefusedText(t, text[:min(len(text), 4000)-1])
		wantRefusedText(t, strings.Repeat("\n", n))
		wantRefusedText(t, strings.Repeat("\n", n-1)+"show")
		wantRefusedText(t, strings.Repeat("\n", n-1)+"show\n")
		wantRefusedText(t, "show\n"+strings.Repeat("\n", n-1))
	}
	// Empty lines are counted between others, too.
	wantConsole(t, strings.Repeat("show\n\n", 20), strings.Repeat(shown, 20), impl.NewDesk())
	wantConsole(t, strings.Repeat("\nshow\n", 20), strings.Repeat(shown, 20), impl.NewDesk())
	wantRefusedText(t, strings.Repeat("show\n\n", 20)+"\n")
	wantRefusedText(t, strings.Repeat("show\n\n", 20)+"show")
	wantRefusedText(t, strings.Repeat("show\n", 40)+" ")
	wantRefusedText(t, strings.Repeat("show\n", 40)+"reset")
}

// manyLines are right lines and wrong ones.
func manyLines() []string {
	return append([]string{"word ", "word edcba", "word aab", "word f", "name triple 20", "name fly 2", "add abc", "add", "turn 4", "turn 9", "cut 0 2", "cut 4 1",
		"double 5 6", "double 40 40", "grow 1 3", "grow 2 9", "slope 7 5", "slope 2 2", "standard", "standard 0", "standard 2 3", "standard 70", "zimin 3", "zimin 0",
		"pattern CC", "pattern ABBA", "pattern ", "morphism abc,ac,b", "morphism ,", "morphism a", "morphism a,b,c,d,e", "morphism c", "lengths 2 3", "path 4 4",
		"avoid 2 4", "count 1 9", "fly", " ", "show ", "reset now"}, ordinaryLines...)
}

// Promise 11, and the guarantee: lines lead from desks to desks, and a line with the output error changes nothing.
func TestPromiseLinesLeadFromDesksToDesks(t *testing.T) {
	reached := map[string]impl.Desk{}
	for _, d := range append(someDesks()[:12], impl.NewDesk()) {
		reached[deskText(d)] = d
	}
	wrong, changes := 0, 0
	for range 2 {
		var next []impl.Desk
		for before, d := range reached {
			for _, line := range manyLines() {
				after, output := impl.RunLine(d, line)
				if !impl.IsDesk(after) || output == "" || deskText(d) != before {
					t.Fatalf("RunLine(%s, %q) = %s, %q, with its argument %s", before, line, deskText(after), output, deskText(d))
				}
				if output == "error" {
					wrong++
				}
				if deskText(after) != before {
					changes++
					next = append(next, after)
				}
				if output == "error" && deskText(after) != before {
					t.Errorf("RunLine(%s, %q) is wrong, and makes %s", before, line, deskText(after))
				}
			}
		}
		for _, d := range next {
			reached[deskText(d)] = d
		}
	}
	if wrong < 1000 || changes < 1000 || len(reached) < 1000 {
		t.Errorf("%d lines were wrong, %d changed desks, and %d desks were reached", wrong, changes, len(reached))
	}
}

// Promise 11, and the guarantee: the console joins the outputs of its lines. The desk after them is the one to which they lead.
func TestPromiseConsoleJoinsOutputs(t *testing.T) {
	lines := manyLines()
	for first := range lines {
		for _, step := range []int{1, 7, 25, len(lines) - 1} {
			var text, outputs strings.Builder
			d := impl.NewDesk()
			for i := range impl.MaxLines {
				line := lines[(first+i*step)%len(lines)]
				after, output := impl.RunLine(d, line)
				d = after
				text.WriteString(line + "\n")
				outputs.WriteString(output + "\n")
			}
			wantConsole(t, text.String(), outputs.String(), d)
			wantConsole(t, strings.TrimSuffix(text.String(), "\n"), outputs.String(), d)
		}
	}
}

// Promise 11: a text that is cut between two lines has the outputs of its parts, if the second part begins by building the desk again.
func TestConsoleOfParts(t *testing.T) {
	for _, line := range manyLines() {
		begin := "word abca\npattern ABA\nmorphism b,c,a\n" + line + "\n"
		d, ok := impl.DeskAfter(begin)
		if !ok {
			t.Fatalf("DeskAfter(%q) is false", begin)
		}
		again := "word " + d.Word + "\npattern " + d.Pattern + "\nmorphism " + strings.Join(d.Morphism.Images, ",") + "\n"
		rest := "image\nplace\nback\nclose\nshow\nlook\nsee\n"
		shown := fmt.Sprintf("%q\n%q\n%q\n", d.Word, d.Pattern, strings.Join(d.Morphism.Images, ","))
		whole, restored := impl.Console(begin+rest), impl.Console(again+rest)
		if whole != impl.Console(begin)+strings.TrimPrefix(restored, shown) || !strings.HasPrefix(restored, shown) {
			t.Errorf("behind %q the console puts out %q, and at the same desk %q", line, whole, restored)
		}
	}
}

// Desks that are results have slices of their own, and the room behind the slices of an argument stays as it is.
func TestDesksAreNew(t *testing.T) {
	room := []string{"ab", "a", "x", "y", "z"}
	d := impl.Desk{Word: "abaab", Pattern: "AA", Morphism: impl.Morphism{Images: room[:2]}}
	for _, line := range manyLines() {
		after, _ := impl.RunLine(d, line)
		for i := range after.Morphism.Images {
			after.Morphism.Images[i] = "changed"
		}
		_ = append(after.Morphism.Images, "changed", "changed", "changed")
		if !slices.Equal(room, []string{"ab", "a", "x", "y", "z"}) {
			t.Fatalf("%q, or a change of its result, makes %q of the argument", line, room)
		}
	}
	for _, text := range []string{"", "show", "morphism a,b\nfly", "reset"} {
		first, _ := impl.DeskAfter(text)
		want := deskText(first)
		first.Morphism.Images[0] = "changed"
		if second, _ := impl.DeskAfter(text); deskText(second) != want {
			t.Errorf("DeskAfter(%q) = %s, behind a change of an earlier result", text, deskText(second))
		}
	}
}

// Nothing is left of a text for the next one.
func TestTextsOneAfterTheOther(t *testing.T) {
	for range 3 {
		wantConsole(t, "word cab\npattern C\nmorphism a,b,c\n", "\"cab\"\n\"C\"\n\"a,b,c\"\n", deskOf("cab", "C", "a,b,c"))
		wantConsole(t, "show\nlook\nsee\nfly\n", "\"abaab\"\n\"AA\"\n\"ab,a\"\nerror\n", impl.NewDesk())
		wantRefusedText(t, strings.Repeat("word cab\n", 41))
		wantOutput(t, impl.NewDesk(), "periods", "3 5")
	}
}
