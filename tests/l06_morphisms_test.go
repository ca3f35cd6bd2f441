package tests

import (
	"fmt"
	"math"
	"slices"
	"strings"
	"testing"

	"loop.example/g01371/impl"
)

// morphism returns the morphism with a text, without the program's help.
func morphism(text string) impl.Morphism {
	return impl.Morphism{Images: strings.Split(text, ",")}
}

// twelve is one of the longest images.
const twelve = "aaaaaaaaaaaa"

// notMorphisms are none, each for another reason: images missing or too many, letters behind the first m, an image too long, or
// something that is not a word, at the first place or at the last one.
func notMorphisms() []impl.Morphism {
	list := []impl.Morphism{{}, {Images: []string{}}}
	for _, text := range []string{",,,,,", "a,b,c,d,e,a", "b", "aab", "a,c", "c,a", "a,b,d", "abcde,b,c,d", twelve + "a", "a," + twelve + "b",
		twelve + "a,b,c,d,e"} {
		list = append(list, morphism(text))
	}
	for _, w := range notWords {
		list = append(list, impl.Morphism{Images: []string{w}}, impl.Morphism{Images: []string{w, "a", "b", "c", "d"}},
			impl.Morphism{Images: []string{"a", "b", "c", "d", w}})
	}
	return list
}

// someMorphisms are morphisms with one image and with many, with empty images and with long ones.
func someMorphisms() []impl.Morphism {
	var list []impl.Morphism
	for _, x := range allWords(2, 2) {
		for _, y := range allWords(2, 2) {
			list = append(list, impl.Morphism{Images: []string{x, y}})
		}
	}
	for _, text := range []string{"", "a", "aa", "aaa", twelve, "aab,bab", "abb,bba", "a,bbb", "abc,ac,b", "abc,,cb", "ab,c,", "ab,bc,ca", "b,c,a",
		"a,b,c", "bc,ca,ab", "a,aab,baab", ",,", "ab,b,c", "b,c,ab,d", "b,a,d,c", "ab,ac,db,dc", ",,,,", "a,b,c,d,e", "b,c,d,e,ab", "b,c,d,e,a",
		"ab,c,d,e,", "ab,c,d,e,e", "ab,,b,ac,edcba", "abcde,bcdea,cdeab,deabc,eabcd", "a,b,c,dbe,dabacde", "edcba,aaaaa,,e,dd",
		twelve + ",bbbbbbbbbbbb", "abcdeabcdeab,a,b,c,d"} {
		list = append(list, morphism(text))
	}
	return list
}

// imageAsDefined returns the product of the images of the letters of w.
func imageAsDefined(h impl.Morphism, w string) string {
	var image strings.Builder
	for _, letter := range w {
		image.WriteString(h.Images[letter-'a'])
	}
	return image.String()
}

func wantMorphism(t *testing.T, call string, got impl.Morphism, code int64, want string, wantCode int64) {
	t.Helper()
	var images []string
	if wantCode == impl.ErrNone {
		images = strings.Split(want, ",")
	}
	if !slices.Equal(got.Images, images) || code != wantCode {
		t.Errorf("%s = %q, %d, not %q, %d", call, got.Images, code, images, wantCode)
	}
}

func TestIsMorphism(t *testing.T) {
	for _, h := range notMorphisms() {
		if impl.IsMorphism(h) {
			t.Errorf("IsMorphism(%q) is true", h.Images)
		}
	}
	for _, h := range append(someMorphisms(), morphism("aaaaa,eeeee,ddddd,bcbcb,abcde"), morphism("bbb,aaa")) {
		if !impl.IsMorphism(h) {
			t.Errorf("IsMorphism(%q) is false", h.Images)
		}
	}
	// The last letter that images may have is that of the last one of them.
	for m := 1; m <= impl.MaxLetters; m++ {
		for number := range 6 {
			images := make([]string, m)
			images[m-1] = "a" + string("abcdef"[number])
			if got := impl.IsMorphism(impl.Morphism{Images: images}); got != (number < m) {
				t.Errorf("IsMorphism(%q) = %v", images, got)
			}
		}
	}
}

// morphismIsRefused tests that the functions with a morphism, a word and numbers return zero values and a code.
func morphismIsRefused(t *testing.T, h impl.Morphism, w string, number int64, want int64) {
	t.Helper()
	of := fmt.Sprintf("(%q, %q, %d)", h.Images, w, number)
	word, code := impl.ImageOf(h, w)
	wantWord(t, "ImageOf"+of, word, code, anError, want)
	word, code = impl.IterateOf(h, w, number)
	wantWord(t, "IterateOf"+of, word, code, anError, want)
	word, code = impl.WordFromImage(h, w)
	wantWord(t, "WordFromImage"+of, word, code, anError, want)
}

// A string that is no word is refused before its letters and other numbers are looked at.
func TestWordsOfMorphismsAreAsked(t *testing.T) {
	for _, w := range notWords {
		for _, h := range append(someMorphisms(), notMorphisms()...) {
			for _, k := range []int64{0, 1, 2, 100, 101, -1} {
				morphismIsRefused(t, h, w, k, impl.ErrInvalid)
			}
		}
	}
}

// What is no morphism is refused by each function before anything else is looked at.
func TestMorphismsAreAsked(t *testing.T) {
	for _, h := range notMorphisms() {
		for _, w := range []string{"", "a", "abcde", "eeeee", longWord(60)} {
			for _, k := range []int64{0, 1, 100, 101, -1, math.MaxInt64, math.MinInt64} {
				morphismIsRefused(t, h, w, k, impl.ErrInvalid)
			}
		}
		for _, letter := range []int64{0, 4, 5, -1} {
			for _, n := range []int64{0, 1, 20, 60, 61, -1, math.MaxInt64, math.MinInt64} {
				of := fmt.Sprintf("(%q, %d, %d)", h.Images, letter, n)
				grown, code := impl.GrownWord(h, letter, n)
				wantWord(t, "GrownWord"+of, grown, code, anError, impl.ErrInvalid)
				lengths, code := impl.LengthsAfter(h, letter, n)
				wantList(t, "LengthsAfter"+of, lengths, code, nil, impl.ErrInvalid)
			}
		}
		for _, g := range append(someMorphisms(), notMorphisms()...) {
			composed, code := impl.ComposeMorphisms(h, g)
			wantMorphism(t, fmt.Sprintf("ComposeMorphisms(%q, %q)", h.Images, g.Images), composed, code, anError, impl.ErrInvalid)
			composed, code = impl.ComposeMorphisms(g, h)
			wantMorphism(t, fmt.Sprintf("ComposeMorphisms(%q, %q)", g.Images, h.Images), composed, code, anError, impl.ErrInvalid)
		}
		of := fmt.Sprintf("(%q)", h.Images)
		matrix, code := impl.MatrixOf(h)
		wantPairs(t, "MatrixOf"+of, matrix, code, nil, impl.ErrInvalid)
		yes, code := impl.IsPrimitive(h)
		wantAnswer(t, "IsPrimitive"+of, yes, code, false, impl.ErrInvalid)
		yes, code = impl.IsUniform(h)
		wantAnswer(t, "IsUniform"+of, yes, code, false, impl.ErrInvalid)
		n, code := impl.TestLength(h)
		wantNumber(t, "TestLength"+of, n, code, 0, impl.ErrInvalid)
		word, code := impl.FirstSquareMaker(h)
		wantWord(t, "FirstSquareMaker"+of, word, code, anError, impl.ErrInvalid)
		text, code := impl.MorphismText(h)
		wantWord(t, "MorphismText"+of, text, code, anError, impl.ErrInvalid)
	}
}

// Words with letters behind the first m are refused before lengths are looked at, and before words are looked for.
func TestOtherLettersAreOutside(t *testing.T) {
	for _, h := range someMorphisms() {
		m := len(h.Images)
		for _, letter := range "abcde"[m:] {
			for _, w := range []string{string(letter), "a" + string(letter), string(letter) + "a", strings.Repeat("a", 59) + string(letter)} {
				for _, k := range []int64{0, 1, 2, 100, 101, -1} {
					morphismIsRefused(t, h, w, k, impl.ErrRange)
				}
			}
		}
		if _, code := impl.ImageOf(h, "abcde"[m-1:m]); code != impl.ErrNone {
			t.Errorf("ImageOf(%q, the last letter): code %d", h.Images, code)
		}
	}
}

// Numbers out of range are refused before words that do not grow and numbers that are too great; the last ones inside are accepted.
func TestNumbersOfMorphismsOutside(t *testing.T) {
	outside := []int64{-1, -2, math.MinInt64, math.MaxInt64}
	for _, h := range someMorphisms() {
		m := int64(len(h.Images))
		for _, k := range append(outside, 101, 102) {
			for _, w := range []string{"", "a", strings.Repeat("a", 60)} {
				word, code := impl.IterateOf(h, w, k)
				wantWord(t, fmt.Sprintf("IterateOf(%q, %q, %d)", h.Images, w, k), word, code, anError, impl.ErrRange)
			}
		}
		if _, code := impl.IterateOf(h, "", 100); code != impl.ErrNone {
			t.Errorf("IterateOf(%q, empty, 100): code %d", h.Images, code)
		}
		for letter := range m {
			for _, n := range append(outside, 61, 62) {
				word, code := impl.GrownWord(h, letter, n)
				wantWord(t, fmt.Sprintf("GrownWord(%q, %d, %d)", h.Images, letter, n), word, code, anError, impl.ErrRange)
			}
			for _, k := range append(outside, 21, 22) {
				lengths, code := impl.LengthsAfter(h, letter, k)
				wantList(t, fmt.Sprintf("LengthsAfter(%q, %d, %d)", h.Images, letter, k), lengths, code, nil, impl.ErrRange)
			}
		}
		for _, letter := range append(outside, m, m+1, 5) {
			for _, n := range []int64{0, 1, 20, 60, 61, -1} {
				of := fmt.Sprintf("(%q, %d, %d)", h.Images, letter, n)
				word, code := impl.GrownWord(h, letter, n)
				wantWord(t, "GrownWord"+of, word, code, anError, impl.ErrRange)
				lengths, code := impl.LengthsAfter(h, letter, n)
				wantList(t, "LengthsAfter"+of, lengths, code, nil, impl.ErrRange)
			}
		}
	}
}

func TestImageOf(t *testing.T) {
	long := strings.Repeat("a", 60)
	cases := []struct {
		h, w, want string
		code       int64
	}{
		{"ab,a", "aba", "abaab", impl.ErrNone},
		{"ab,a", "", "", impl.ErrNone},
		{"ab,a", "bbb", "aaa", impl.ErrNone},
		{"", "", "", impl.ErrNone},
		{"", long, "", impl.ErrNone},
		{",,,,", longWord(60), "", impl.ErrNone},
		{"b,", "abab", "bb", impl.ErrNone},
		{"b,c,d,e,a", "abcde", "bcdea", impl.ErrNone},
		{"a,b,c,d,e", longWord(60), longWord(60), impl.ErrNone},
		{"abc,ac,b", "abcac", "abcacbabcb", impl.ErrNone},
		{"aa", long[:30], long, impl.ErrNone},
		{"aa", long[:31], anError, impl.ErrLimit},
		{"aa", long, anError, impl.ErrLimit},
		{twelve, "aaaaa", long, impl.ErrNone},
		{twelve, "aaaaaa", anError, impl.ErrLimit},
		{twelve + ",b,", "aaaaa", long, impl.ErrNone},
		{twelve + ",b,", "acacacacac", long, impl.ErrNone},
		{twelve + ",b,", "aaaaab", anError, impl.ErrLimit},
		{twelve + ",b,", "baaaaac", anError, impl.ErrLimit},
	}
	for _, c := range cases {
		got, code := impl.ImageOf(morphism(c.h), c.w)
		wantWord(t, fmt.Sprintf("ImageOf(%q, %q)", c.h, c.w), got, code, c.want, c.code)
	}
}

func TestIterateOf(t *testing.T) {
	long := strings.Repeat("a", 60)
	cases := []struct {
		h, w string
		k    int64
		want string
		code int64
	}{
		{"ab,a", "a", 0, "a", impl.ErrNone},
		{"ab,a", "a", 1, "ab", impl.ErrNone},
		{"ab,a", "a", 2, "aba", impl.ErrNone},
		{"ab,a", "a", 3, "abaab", impl.ErrNone},
		{"ab,a", "b", 3, "aba", impl.ErrNone},
		{"ab,a", "ba", 2, "ababa", impl.ErrNone},
		{"ab,a", "", 100, "", impl.ErrNone},
		{"ab,a", long, 0, long, impl.ErrNone},
		{"ab,a", long, 1, anError, impl.ErrLimit},
		{"ab,a", "a", 100, anError, impl.ErrLimit},
		{"", "a", 0, "a", impl.ErrNone},
		{"", "a", 1, "", impl.ErrNone},
		{"", "a", 100, "", impl.ErrNone},
		{"b,c,d,e,a", "abcde", 99, "eabcd", impl.ErrNone},
		{"b,c,d,e,a", "abcde", 100, "abcde", impl.ErrNone},
		{"b,c,d,e,", "aaa", 4, "eee", impl.ErrNone},
		{"b,c,d,e,", "aaa", 5, "", impl.ErrNone},
		{"a,b,c,d,e", longWord(60), 100, longWord(60), impl.ErrNone},
		{"aa,b", long[:15], 2, long, impl.ErrNone},
		{"aa,b", long[:15], 3, anError, impl.ErrLimit},
		{"aa,b", long[:15] + "b", 1, long[:30] + "b", impl.ErrNone},
		{"aa,b", long[:15] + "b", 2, anError, impl.ErrLimit},
		{"ab,b", "a", 59, "a" + strings.Repeat("b", 59), impl.ErrNone},
		{"ab,b", "a", 60, anError, impl.ErrLimit},
		// An iterate that is too long is an error, even if the ones behind it are short again.
		{"bbbbbbbbbbbb,", "aaaaa", 1, strings.Repeat("b", 60), impl.ErrNone},
		{"bbbbbbbbbbbb,", "aaaaa", 2, "", impl.ErrNone},
		{"bbbbbbbbbbbb,", "aaaaaa", 1, anError, impl.ErrLimit},
		{"bbbbbbbbbbbb,", "aaaaaa", 2, anError, impl.ErrLimit},
		{"bbbbbbbbbbbb,", "aaaaaa", 100, anError, impl.ErrLimit},
	}
	for _, c := range cases {
		got, code := impl.IterateOf(morphism(c.h), c.w, c.k)
		wantWord(t, fmt.Sprintf("IterateOf(%q, %q, %d)", c.h, c.w, c.k), got, code, c.want, c.code)
	}
}

func TestIteratesAsDefined(t *testing.T) {
	for _, h := range someMorphisms() {
		m := len(h.Images)
		for _, w := range append(allWords(3, m), longWord(m), strings.Repeat("abcde"[m-1:m], 60)) {
			want, wanted := w, int64(impl.ErrNone)
			for k := int64(0); k <= 100; k++ {
				got, code := impl.IterateOf(h, w, k)
				wantWord(t, fmt.Sprintf("IterateOf(%q, %q, %d)", h.Images, w, k), got, code, want, wanted)
				if k == 1 {
					got, code := impl.ImageOf(h, w)
					wantWord(t, fmt.Sprintf("ImageOf(%q, %q)", h.Images, w), got, code, want, wanted)
				}
				want = imageAsDefined(h, want)
				if len(want) > 60 {
					want, wanted = anError, impl.ErrLimit
				}
			}
		}
	}
}

// The guarantee: images of products are products of images.
func TestGuaranteeImagesOfProductsAreProducts(t *testing.T) {
	for _, h := range someMorphisms() {
		for _, w := range allWords(3, len(h.Images)) {
			for _, u := range allWords(1, len(h.Images)) {
				whole, code := impl.ImageOf(h, product(t, w, u))
				x, _ := impl.ImageOf(h, w)
				y, _ := impl.ImageOf(h, u)
				wantWord(t, fmt.Sprintf("ImageOf(%q, %q)", h.Images, w+u), whole, code, product(t, x, y), impl.ErrNone)
			}
		}
	}
}

func TestComposeMorphisms(t *testing.T) {
	cases := []struct {
		h, g, want string
		code       int64
	}{
		{"ab,a", "ab,a", "aba,ab", impl.ErrNone},
		{"ab,a", "b,aa", "a,abab", impl.ErrNone},
		{"b,aa", "ab,a", "baa,b", impl.ErrNone},
		{"", "", "", impl.ErrNone},
		{"a", "", "", impl.ErrNone},
		{"", "aaa", "", impl.ErrNone},
		{",b", "ab,a", "b,", impl.ErrNone},
		{"a,b,c,d,e", "edcba,,a,bb,cde", "edcba,,a,bb,cde", impl.ErrNone},
		{"b,c,d,e,a", "b,c,d,e,a", "c,d,e,a,b", impl.ErrNone},
		{",,,,", "abcde,bcdea,cdeab,deabc,eabcd", ",,,,", impl.ErrNone},
		{"aaa,b", "aaaa,b", twelve + ",b", impl.ErrNone},
		{"aaa,b", "aaaab,b", anError, impl.ErrLimit},
		{"aaa,b", "b,baaaa", anError, impl.ErrLimit},
		{"aaa,", "bab,aabbbaa", "aaa," + twelve, impl.ErrNone},
		{twelve, "a", twelve, impl.ErrNone},
		{"a", twelve, twelve, impl.ErrNone},
		{twelve, "aa", anError, impl.ErrLimit},
		{twelve, twelve, anError, impl.ErrLimit},
		// Not as many images comes before images that are too long.
		{"a", "a,b", anError, impl.ErrRange},
		{"a,b", "a", anError, impl.ErrRange},
		{twelve, twelve + ",b", anError, impl.ErrRange},
		{twelve + ",b,c,d", twelve + ",b,c,d,e", anError, impl.ErrRange},
	}
	for _, c := range cases {
		got, code := impl.ComposeMorphisms(morphism(c.h), morphism(c.g))
		wantMorphism(t, fmt.Sprintf("ComposeMorphisms(%q, %q)", c.h, c.g), got, code, c.want, c.code)
	}
}

// Promise 6: images by composed morphisms are images of images. Just those that are too long are not composed.
func TestPromiseImagesByComposedMorphisms(t *testing.T) {
	composedOnes := 0
	for _, h := range someMorphisms() {
		for _, g := range someMorphisms() {
			m := len(g.Images)
			call := fmt.Sprintf("ComposeMorphisms(%q, %q)", h.Images, g.Images)
			composed, code := impl.ComposeMorphisms(h, g)
			if len(h.Images) != m {
				wantMorphism(t, call, composed, code, anError, impl.ErrRange)
				continue
			}
			long := slices.ContainsFunc(g.Images, func(image string) bool { return len(imageAsDefined(h, image)) > 12 })
			if long {
				wantMorphism(t, call, composed, code, anError, impl.ErrLimit)
				continue
			}
			if code != impl.ErrNone || len(composed.Images) != m || !impl.IsMorphism(composed) {
				t.Fatalf("%s = %q, %d", call, composed.Images, code)
			}
			composedOnes++
			for _, w := range append(allWords(3, m), "abcde"[:m]) {
				first, codeOfFirst := impl.ImageOf(g, w)
				want, codeOfWant := impl.ImageOf(h, first)
				got, code := impl.ImageOf(composed, w)
				if codeOfFirst == impl.ErrNone && codeOfWant == impl.ErrNone {
					wantWord(t, call+" and the image of "+w, got, code, want, impl.ErrNone)
				}
			}
		}
	}
	if composedOnes < 2000 {
		t.Errorf("only %d morphisms were composed", composedOnes)
	}
}

func TestGrownWord(t *testing.T) {
	fibonacci, _ := impl.NamedWord("fibonacci", 60)
	thue, _ := impl.NamedWord("thue", 60)
	cases := []struct {
		h         string
		letter, n int64
		want      string
		code      int64
	}{
		{"ab,a", 0, 6, "abaaba", impl.ErrNone},
		{"ab,a", 0, 0, "", impl.ErrNone},
		{"ab,a", 0, 1, "a", impl.ErrNone},
		{"ab,a", 0, 2, "ab", impl.ErrNone},
		{"ab,a", 0, 60, fibonacci, impl.ErrNone},
		{"ab,a", 1, 0, anError, impl.ErrState},
		{"ab,a", 1, 60, anError, impl.ErrState},
		{"ab,ba", 0, 60, thue, impl.ErrNone},
		{"ab,ba", 1, 8, "baababba", impl.ErrNone},
		{"aa", 0, 60, strings.Repeat("a", 60), impl.ErrNone},
		{twelve, 0, 59, strings.Repeat("a", 59), impl.ErrNone},
		{twelve, 0, 5, "aaaaa", impl.ErrNone},
		// A word that stays the same is none that grows.
		{"a", 0, 0, anError, impl.ErrState},
		{"a", 0, 1, anError, impl.ErrState},
		{"", 0, 0, anError, impl.ErrState},
		{"a,bb", 0, 1, anError, impl.ErrState},
		{"a,bb", 1, 60, strings.Repeat("b", 60), impl.ErrNone},
		{"ba,b", 0, 1, anError, impl.ErrState},
		{"b,ab", 0, 1, anError, impl.ErrState},
		{"ab,b", 0, 60, "a" + strings.Repeat("b", 59), impl.ErrNone},
		{"b,ba", 1, 6, "babbab", impl.ErrNone},
		// What is behind the letter may become empty, which may take as many times as there are other letters.
		{"ab,", 0, 2, anError, impl.ErrState},
		{"abbb,", 0, 4, anError, impl.ErrState},
		{"ab,c,", 0, 3, anError, impl.ErrState},
		{"ab,c,d,", 0, 4, anError, impl.ErrState},
		{"ab,c,d,e,", 0, 0, anError, impl.ErrState},
		{"ab,c,d,e,", 0, 5, anError, impl.ErrState},
		{",a,b,c,ed", 4, 5, anError, impl.ErrState},
		{"ab,c,d,e,e", 0, 60, "abcd" + strings.Repeat("e", 56), impl.ErrNone},
		{"ab,c,d,e,b", 0, 12, "abcdebcdebcd", impl.ErrNone},
		{"abc,,cb", 0, 10, "abccbcbcbc", impl.ErrNone},
		{"abbbbbbbbbbc,,c", 0, 14, "abbbbbbbbbbccc", impl.ErrNone},
		{"e,,,,edddda", 4, 14, "eddddaeeddddae", impl.ErrNone},
	}
	for _, c := range cases {
		got, code := impl.GrownWord(morphism(c.h), c.letter, c.n)
		wantWord(t, fmt.Sprintf("GrownWord(%q, %d, %d)", c.h, c.letter, c.n), got, code, c.want, c.code)
	}
}

// grownAsDefined returns the first iterate of a letter that has 60 letters or more, the empty word if the letter is not grown.
func grownAsDefined(h impl.Morphism, letter int) string {
	iterate := string("abcde"[letter])
	if !strings.HasPrefix(h.Images[letter], iterate) {
		return ""
	}
	for len(iterate) < 60 {
		next := imageAsDefined(h, iterate)
		if next == iterate {
			return ""
		}
		iterate = next
	}
	return iterate
}

func TestGrownWordsAsDefined(t *testing.T) {
	grownOnes := 0
	for _, h := range someMorphisms() {
		for letter := range h.Images {
			want := grownAsDefined(h, letter)
			for n := range 61 {
				call := fmt.Sprintf("GrownWord(%q, %d, %d)", h.Images, letter, n)
				got, code := impl.GrownWord(h, int64(letter), int64(n))
				if want == "" {
					wantWord(t, call, got, code, anError, impl.ErrState)
					continue
				}
				wantWord(t, call, got, code, want[:n], impl.ErrNone)
				grownOnes++
			}
		}
	}
	if grownOnes < 1000 {
		t.Errorf("only %d words were grown", grownOnes)
	}
}

// Promise 6: grown words are beginnings of their images.
func TestPromiseGrownWordsAreBeginningsOfTheirImages(t *testing.T) {
	for _, h := range someMorphisms() {
		for letter := range int64(len(h.Images)) {
			for n := range int64(61) {
				grown, code := impl.GrownWord(h, letter, n)
				if code != impl.ErrNone {
					continue
				}
				image, code := impl.ImageOf(h, grown)
				if code == impl.ErrNone && !strings.HasPrefix(image, grown) {
					t.Errorf("GrownWord(%q, %d, %d) = %q, and its image is %q", h.Images, letter, n, grown, image)
				}
			}
		}
	}
}

// Named words are grown words of their images.
func TestGrownWordsHaveNames(t *testing.T) {
	for name, text := range map[string]string{"fibonacci": "ab,a", "thue": "ab,ba", "doubling": "ab,aa", "triple": "abc,ac,b"} {
		want, _ := impl.NamedWord(name, 60)
		got, code := impl.GrownWord(morphism(text), 0, 60)
		wantWord(t, "GrownWord "+name, got, code, want, impl.ErrNone)
	}
}

func TestLengthsAfter(t *testing.T) {
	cases := []struct {
		h         string
		letter, k int64
		want      []int64
	}{
		{"ab,a", 0, 4, []int64{1, 2, 3, 5, 8}},
		{"ab,a", 1, 4, []int64{1, 1, 2, 3, 5}},
		{"ab,a", 0, 0, []int64{1}},
		{"", 0, 0, []int64{1}},
		{"", 0, 3, []int64{1, 0, 0, 0}},
		{"a", 0, 20, []int64{1, 1, 1, 1, 1, 1, 1, 1, 1, 1, 1, 1, 1, 1, 1, 1, 1, 1, 1, 1, 1}},
		{"b,c,d,e,", 0, 6, []int64{1, 1, 1, 1, 1, 0, 0}},
		{"bbbbbbbbbbbb,", 0, 3, []int64{1, 12, 0, 0}},
		{twelve, 0, 3, []int64{1, 12, 144, 1728}},
		{"ab,b", 0, 5, []int64{1, 2, 3, 4, 5, 6}},
		{"abcde,b,cc,,a", 0, 2, []int64{1, 5, 9}},
		{"abcde,b,cc,,a", 4, 3, []int64{1, 1, 5, 9}},
	}
	for _, c := range cases {
		got, code := impl.LengthsAfter(morphism(c.h), c.letter, c.k)
		wantList(t, fmt.Sprintf("LengthsAfter(%q, %d, %d)", c.h, c.letter, c.k), got, code, c.want, impl.ErrNone)
	}
}

// Lengths of 10^15 are accepted, and one more is not; words that are too long for other functions are no error here.
func TestLengthsAfterLimits(t *testing.T) {
	tens := morphism("bbbbbbbbbb,aaaaabbbbb")
	over := morphism("bbbbbbbbbbc,bbbbbbbbbb,c")
	cases := []struct {
		h         impl.Morphism
		letter, k int64
		last      int64
		code      int64
	}{
		{tens, 0, 15, 1_000_000_000_000_000, impl.ErrNone},
		{tens, 1, 15, 1_000_000_000_000_000, impl.ErrNone},
		{tens, 0, 16, 0, impl.ErrLimit},
		{tens, 0, 20, 0, impl.ErrLimit},
		{over, 0, 14, 100_000_000_000_001, impl.ErrNone},
		{over, 0, 15, 0, impl.ErrLimit},
		{over, 1, 15, 1_000_000_000_000_000, impl.ErrNone},
		{over, 2, 20, 1, impl.ErrNone},
		{morphism(twelve), 0, 13, 106_993_205_379_072, impl.ErrNone},
		{morphism(twelve), 0, 14, 0, impl.ErrLimit},
		{morphism(twelve), 0, 20, 0, impl.ErrLimit},
		{morphism("aaaaa"), 0, 20, 95_367_431_640_625, impl.ErrNone},
		{morphism("aaaaaa"), 0, 19, 609_359_740_010_496, impl.ErrNone},
		{morphism("aaaaaa"), 0, 20, 0, impl.ErrLimit},
	}
	for _, c := range cases {
		call := fmt.Sprintf("LengthsAfter(%q, %d, %d)", c.h.Images, c.letter, c.k)
		got, code := impl.LengthsAfter(c.h, c.letter, c.k)
		if c.code != impl.ErrNone {
			wantList(t, call, got, code, nil, c.code)
			continue
		}
		if code != impl.ErrNone || int64(len(got)) != c.k+1 || got[c.k] != c.last {
			t.Errorf("%s = %v, %d, not one with %d at the end", call, got, code, c.last)
		}
	}
}

func TestLengthsAreThoseOfIterates(t *testing.T) {
	for _, h := range someMorphisms() {
		for letter := range h.Images {
			iterate := string("abcde"[letter])
			var want []int64
			for k := int64(0); k <= 20 && len(iterate) <= 2000; k++ {
				want = append(want, int64(len(iterate)))
				got, code := impl.LengthsAfter(h, int64(letter), k)
				wantList(t, fmt.Sprintf("LengthsAfter(%q, %d, %d)", h.Images, letter, k), got, code, want, impl.ErrNone)
				iterate = imageAsDefined(h, iterate)
			}
		}
	}
}

func TestMatrixOf(t *testing.T) {
	cases := map[string][][]int64{
		"ab,a":              {{1, 1}, {1, 0}},
		"":                  {{0}},
		"a":                 {{1}},
		twelve:              {{12}},
		",":                 {{0, 0}, {0, 0}},
		"bbab,":             {{1, 3}, {0, 0}},
		"abc,ac,b":          {{1, 1, 1}, {1, 0, 1}, {0, 1, 0}},
		"b,c,d,e,":          {{0, 1, 0, 0, 0}, {0, 0, 1, 0, 0}, {0, 0, 0, 1, 0}, {0, 0, 0, 0, 1}, {0, 0, 0, 0, 0}},
		"eeeee,d,,cbabc,ab": {{0, 0, 0, 0, 5}, {0, 0, 0, 1, 0}, {0, 0, 0, 0, 0}, {1, 2, 2, 0, 0}, {1, 1, 0, 0, 0}},
	}
	for text, want := range cases {
		got, code := impl.MatrixOf(morphism(text))
		wantPairs(t, fmt.Sprintf("MatrixOf(%q)", text), got, code, want, impl.ErrNone)
	}
	for _, h := range someMorphisms() {
		var want [][]int64
		for _, image := range h.Images {
			counts, _ := impl.CountLetters(image)
			want = append(want, counts[:len(h.Images)])
		}
		got, code := impl.MatrixOf(h)
		wantPairs(t, fmt.Sprintf("MatrixOf(%q)", h.Images), got, code, want, impl.ErrNone)
	}
}

// timesMatrix returns the row with its product by a matrix in place of it.
func timesMatrix(row []int64, matrix [][]int64) []int64 {
	next := make([]int64, len(row))
	for i, number := range row {
		for j := range next {
			next[j] += number * matrix[i][j]
		}
	}
	return next
}

// The guarantee: lengths are sums of matrices, those of a row of the matrix multiplied so many times.
func TestGuaranteeLengthsAreSumsOfMatrices(t *testing.T) {
	for _, h := range someMorphisms() {
		matrix, _ := impl.MatrixOf(h)
		for letter := range h.Images {
			row := make([]int64, len(h.Images))
			row[letter] = 1
			var want []int64
			for k := int64(0); k <= 20; k++ {
				sum := int64(0)
				for _, number := range row {
					sum += number
				}
				call := fmt.Sprintf("LengthsAfter(%q, %d, %d)", h.Images, letter, k)
				got, code := impl.LengthsAfter(h, int64(letter), k)
				if sum > 1_000_000_000_000_000 {
					wantList(t, call, got, code, nil, impl.ErrLimit)
					break
				}
				want = append(want, sum)
				wantList(t, call, got, code, want, impl.ErrNone)
				row = timesMatrix(row, matrix)
			}
		}
	}
}

func TestIsPrimitiveAndIsUniform(t *testing.T) {
	cases := []struct {
		h                  string
		primitive, uniform bool
	}{
		{"ab,a", true, false},
		{"ab,ba", true, true},
		{"a", true, true},
		{"", false, true},
		{twelve, true, true},
		{",", false, true},
		{"ab,", false, false},
		{"b,a", false, true},
		{"a,b", false, true},
		{"ab,b", false, false},
		{"b,ab", true, false},
		{"aa,ab", false, true},
		{"a,ba", false, false},
		{"abc,ac,b", true, false},
		{"b,c,a", false, true},
		{"b,c,ab", true, false},
		{"bb,cc,aa", false, true},
		// All letters may come together as late as this.
		{"b,c,d,ab", true, false},
		{"b,c,d,e,ab", true, false},
		{"b,c,d,e,a", false, true},
		{"b,c,d,e,aa", false, false},
		{"b,a,d,c", false, true},
		{"bd,ac,bd,ac", false, true},
		{"abcde,abcde,abcde,abcde,abcde", true, true},
		{"abcde,abcde,abcde,abcde,", false, false},
		{"abcd,abcd,abcd,abcd,abcd", false, true},
		{"abcde,a,a,a,a", true, false},
		{",,,,", false, true},
		{",,,,e", false, false},
		{"e,,,,", false, false},
		{"a,b,c,d,eee", false, false},
		{"aaa,b,c,d,e", false, false},
	}
	for _, c := range cases {
		got, code := impl.IsPrimitive(morphism(c.h))
		wantAnswer(t, fmt.Sprintf("IsPrimitive(%q)", c.h), got, code, c.primitive, impl.ErrNone)
		got, code = impl.IsUniform(morphism(c.h))
		wantAnswer(t, fmt.Sprintf("IsUniform(%q)", c.h), got, code, c.uniform, impl.ErrNone)
	}
}

// primitiveAsDefined takes images of the sets of letters of iterates, more often than is needed to see all of them.
func primitiveAsDefined(h impl.Morphism) bool {
	iterates := slices.Clone(h.Images)
	for range 100 {
		all := true
		for i, iterate := range iterates {
			letters := ""
			for _, letter := range "abcde"[:len(h.Images)] {
				if strings.ContainsRune(iterate, letter) {
					letters += string(letter)
				}
			}
			all = all && len(letters) == len(h.Images)
			iterates[i] = imageAsDefined(h, letters)
		}
		if all {
			return true
		}
	}
	return false
}

func TestIsPrimitiveAsDefined(t *testing.T) {
	list := someMorphisms()
	images := []string{"", "a", "b", "c", "ab", "ac", "bc", "ca"}
	for _, x := range images {
		for _, y := range images {
			for _, z := range images {
				list = append(list, impl.Morphism{Images: []string{x, y, z}}, impl.Morphism{Images: []string{x, y, "ad", z}},
					impl.Morphism{Images: []string{x, "e", y, "c", "bd"}}, impl.Morphism{Images: []string{"d", x, "e", "b", z}})
			}
		}
	}
	primitive := 0
	for _, h := range list {
		want := primitiveAsDefined(h)
		got, code := impl.IsPrimitive(h)
		wantAnswer(t, fmt.Sprintf("IsPrimitive(%q)", h.Images), got, code, want, impl.ErrNone)
		if want {
			primitive++
		}
	}
	if primitive < 100 {
		t.Errorf("only %d morphisms are primitive", primitive)
	}
}

func TestTestLength(t *testing.T) {
	cases := []struct {
		h    string
		want int64
		code int64
	}{
		{"ab,a", 3, impl.ErrNone},
		{"a", 3, impl.ErrNone},
		{"aaaaa", 3, impl.ErrNone},
		{twelve, 3, impl.ErrNone},
		{"a,b,c,d,e", 3, impl.ErrNone},
		{"a,aaaa", 3, impl.ErrNone},
		{"a,aaaaa", 3, impl.ErrNone},
		{"a,aaaaaa", 4, impl.ErrNone},
		{"aaaaaa,b", 4, impl.ErrNone},
		{"a,aaaaaaa", 5, impl.ErrNone},
		{"a,aaaaaaaa", 6, impl.ErrNone},
		{"a," + twelve, 10, impl.ErrNone},
		{"ab," + twelve, 6, impl.ErrNone},
		{"ab,aaaaaaaa", 4, impl.ErrNone},
		{"ab,aaaaaaaaa", 4, impl.ErrNone},
		{"ab,aaaaaaaaaa", 5, impl.ErrNone},
		{"aba," + twelve, 4, impl.ErrNone},
		{"abab," + twelve, 4, impl.ErrNone},
		{"ababa," + twelve, 3, impl.ErrNone},
		{"", 0, impl.ErrState},
		{"ab,", 0, impl.ErrState},
		{",ab", 0, impl.ErrState},
		{twelve + ",b,c,d,", 0, impl.ErrState},
	}
	for _, c := range cases {
		got, code := impl.TestLength(morphism(c.h))
		wantNumber(t, fmt.Sprintf("TestLength(%q)", c.h), got, code, c.want, c.code)
	}
}

func TestTestLengthAsDefined(t *testing.T) {
	for a := 1; a <= 12; a++ {
		for b := a; b <= 12; b++ {
			least := 0
			for least*a < b-3 {
				least++
			}
			want := int64(max(3, least+1))
			short, long, middle := strings.Repeat("a", a), strings.Repeat("b", b), strings.Repeat("c", (a+b)/2)
			for _, images := range [][]string{{short, long}, {long, short}, {short, long, middle}, {middle, long, short}, {long, middle, short, long}} {
				got, code := impl.TestLength(impl.Morphism{Images: images})
				wantNumber(t, fmt.Sprintf("TestLength(%q)", images), got, code, want, impl.ErrNone)
			}
		}
	}
}

func TestFirstSquareMaker(t *testing.T) {
	cases := []struct {
		h, want string
		code    int64
	}{
		{"ab,a", "ba", impl.ErrNone},
		{"ab,ba", "ab", impl.ErrNone},
		{"aa", "a", impl.ErrNone},
		{"aba,b", "ab", impl.ErrNone},
		{"a,bab", "ab", impl.ErrNone},
		{"a,ba", "ba", impl.ErrNone},
		{"a,bb", "b", impl.ErrNone},
		{"abab,a", "a", impl.ErrNone},
		{twelve, "a", impl.ErrNone},
		// Images by renamed letters are square free.
		{"a", "", impl.ErrNotFound},
		{"b,a", "", impl.ErrNotFound},
		{"b,c,a", "", impl.ErrNotFound},
		{"a,b,c,d,e", "", impl.ErrNotFound},
		{"eab,d,eba,edcb,ec", "", impl.ErrNotFound},
		{"a,d,ecbedc,bdc,ebdbebc", "", impl.ErrNotFound},
		{"a,b,c,b", "bd", impl.ErrNone},
		{"a,b,c,d,ea", "ea", impl.ErrNone},
		{"a,b,c,d,ae", "ae", impl.ErrNone},
		{"a,b,cbac", "acb", impl.ErrNone},
		// Makers may have as many letters as the test length, which are 4 or 5 here.
		{"d,cdadcb,a,cadb", "acab", impl.ErrNone},
		{"e,dcbeaeb,a,c,dacecb", "baca", impl.ErrNone},
		{"a,b,c,dbe,dabacde", "abace", impl.ErrNone},
		{"a,abababa", "b", impl.ErrNone},
		{"a,abababab", anError, impl.ErrLimit},
		{"abcbabcb,b,c", anError, impl.ErrLimit},
		{"aa,bbbbbbbbbbb", "a", impl.ErrNone},
		{"aa,bbbbbbbbbbbb", anError, impl.ErrLimit},
		{"aaa," + twelve, "a", impl.ErrNone},
		{"aa,bbbbbbbbbb", "a", impl.ErrNone},
		{"a," + twelve, anError, impl.ErrLimit},
		{"", anError, impl.ErrState},
		{"ab,", anError, impl.ErrState},
		{",aa", anError, impl.ErrState},
		{"a," + twelve + ",", anError, impl.ErrState},
	}
	for _, c := range cases {
		got, code := impl.FirstSquareMaker(morphism(c.h))
		wantWord(t, fmt.Sprintf("FirstSquareMaker(%q)", c.h), got, code, c.want, c.code)
	}
}

// firstMakerAsDefined returns the first square free word of at most n letters whose image has a square, the empty word if there is none.
func firstMakerAsDefined(h impl.Morphism, n int) string {
	for _, w := range allWords(n, len(h.Images)) {
		if !hasSquare(w) && hasSquare(imageAsDefined(h, w)) {
			return w
		}
	}
	return ""
}

func TestFirstSquareMakerAsDefined(t *testing.T) {
	list := append(someMorphisms(), morphism("cdbabd,a,cad,b"), morphism("bad,c,ecd,eabced,a"), morphism("a,bcad,c,bcdedae,bde"),
		morphism("c,dacb,dcacba,dcadaba"), morphism("dab,a,dcdb,cbdadb"), morphism("cae,d,a,cdabcbe,b"), morphism("a,b,cedbae,cbe,dabacde"),
		morphism("abcdeabcdeab,abcde,bcdea,cdeab,deabc"), morphism("abcacbabcbac,acbabcacbabc,abacabcacbab"))
	for _, x := range []string{"a", "ab", "aba", "abc", "acbc"} {
		for _, y := range []string{"b", "bc", "bcb", "ca", "cbca"} {
			for _, z := range []string{"c", "ca", "cabac", "ba", "bacbab"} {
				list = append(list, impl.Morphism{Images: []string{x, y, z}})
			}
		}
	}
	found := 0
	for _, h := range list {
		call := fmt.Sprintf("FirstSquareMaker(%q)", h.Images)
		got, code := impl.FirstSquareMaker(h)
		n, lengthCode := impl.TestLength(h)
		if lengthCode != impl.ErrNone {
			wantWord(t, call, got, code, anError, impl.ErrState)
			continue
		}
		if n > 5 {
			wantWord(t, call, got, code, anError, impl.ErrLimit)
			continue
		}
		want := firstMakerAsDefined(h, int(n))
		if want == "" {
			wantWord(t, call, got, code, anError, impl.ErrNotFound)
			continue
		}
		wantWord(t, call, got, code, want, impl.ErrNone)
		found++
	}
	if found < 100 {
		t.Errorf("only %d words were found", found)
	}
}

func TestWordFromImage(t *testing.T) {
	long := strings.Repeat("a", 60)
	cases := []struct {
		h, w, want string
		code       int64
	}{
		{"ab,a", "abaab", "aba", impl.ErrNone},
		{"ab,a", "", "", impl.ErrNone},
		{"ab,a", "b", anError, impl.ErrNotFound},
		{"ab,a", "abb", anError, impl.ErrNotFound},
		{"ab,a", "aab", "ba", impl.ErrNone},
		{"ab,a", "aba", "ab", impl.ErrNone},
		{"", "", "", impl.ErrNone},
		{"", "a", anError, impl.ErrNotFound},
		{",,,,", "", "", impl.ErrNone},
		{",,,,", "e", anError, impl.ErrNotFound},
		// Letters with empty images are in no word with the least number of letters.
		{",a", "aa", "bb", impl.ErrNone},
		{",b,a", "ab", "cb", impl.ErrNone},
		// Fewer letters come first, whatever they are.
		{"a,aa", "aa", "b", impl.ErrNone},
		{"a,aa", "aaa", "ab", impl.ErrNone},
		{"a,b,c,d,abcd", "abcd", "e", impl.ErrNone},
		{"a,b,ab,abb,abbb", "abbb", "e", impl.ErrNone},
		{"aaa,aa,a", "aaaa", "ac", impl.ErrNone},
		{"a,a", "aaa", "aaa", impl.ErrNone},
		{"b,b,b,b,b", "bb", "aa", impl.ErrNone},
		// Of as many letters, the first word is meant, also where a longer image would go first.
		{"ab,a,ba", "aba", "ab", impl.ErrNone},
		{"ba,ab,a", "aba", "bc", impl.ErrNone},
		{"ba,a,ab", "aba", "ba", impl.ErrNone},
		// The first image that fits may lead nowhere.
		{"aab,aa,ba", "aaba", "bc", impl.ErrNone},
		{"a,ab,bb", "abbb", "bc", impl.ErrNone},
		{"a,ab,bb", "abb", "ac", impl.ErrNone},
		{"a,ab,bb", "ba", anError, impl.ErrNotFound},
		{"a", long, long, impl.ErrNone},
		{"aa", long, long[:30], impl.ErrNone},
		{"aa", long[:59], anError, impl.ErrNotFound},
		{"aa,aaa", long[:59], "a" + strings.Repeat("b", 19), impl.ErrNone},
		{"aaa,aa", long[:59], strings.Repeat("a", 19) + "b", impl.ErrNone},
		{twelve, long, "aaaaa", impl.ErrNone},
		{twelve, long[:59], anError, impl.ErrNotFound},
		{"a," + twelve, long[:49], "abbbb", impl.ErrNone},
		{"b,c,d,e,a", longWord(60), "e" + longWord(59), impl.ErrNone},
		{"abcde,,,,", longWord(60), strings.Repeat("a", 12), impl.ErrNone},
		{"abcde,,,,", longWord(59), anError, impl.ErrNotFound},
	}
	for _, c := range cases {
		got, code := impl.WordFromImage(morphism(c.h), c.w)
		wantWord(t, fmt.Sprintf("WordFromImage(%q, %q)", c.h, c.w), got, code, c.want, c.code)
	}
}

// Words with letters behind the first m are refused even where such a word is looked for.
func TestWordFromImageOfOtherLetters(t *testing.T) {
	got, code := impl.WordFromImage(morphism("ab,a"), "abc")
	wantWord(t, `WordFromImage("ab,a", "abc")`, got, code, anError, impl.ErrRange)
	got, code = impl.WordFromImage(morphism("a"), "b")
	wantWord(t, `WordFromImage("a", "b")`, got, code, anError, impl.ErrRange)
	got, code = impl.WordFromImage(morphism("a,"), "b")
	wantWord(t, `WordFromImage("a,", "b")`, got, code, anError, impl.ErrNotFound)
}

func TestWordFromImageAsDefined(t *testing.T) {
	for _, h := range someMorphisms() {
		m := len(h.Images)
		n := 5
		if m == 5 {
			n = 4
		}
		// A word of fewer letters than its image has is behind no other one that has this image too: words come in this order.
		first := map[string]string{}
		for _, w := range allWords(n, m) {
			image := imageAsDefined(h, w)
			if _, found := first[image]; !found {
				first[image] = w
			}
		}
		for _, w := range allWords(n, m) {
			call := fmt.Sprintf("WordFromImage(%q, %q)", h.Images, w)
			got, code := impl.WordFromImage(h, w)
			if want, found := first[w]; found {
				wantWord(t, call, got, code, want, impl.ErrNone)
			} else {
				wantWord(t, call, got, code, anError, impl.ErrNotFound)
			}
		}
		for image, want := range first {
			if len(image) <= 60 {
				got, code := impl.WordFromImage(h, image)
				wantWord(t, fmt.Sprintf("WordFromImage(%q, %q)", h.Images, image), got, code, want, impl.ErrNone)
			}
		}
	}
}

// Promise 12: words found from images have these images. They are found for all images.
func TestPromiseWordsFromImagesHaveThem(t *testing.T) {
	for _, h := range someMorphisms() {
		m := len(h.Images)
		words := append(allWords(3, m), "abcde"[:m], strings.Repeat("abcde"[:m], 2), strings.Repeat("a", 60), strings.Repeat("abcde"[:m], 60/m))
		for _, w := range words {
			image, code := impl.ImageOf(h, w)
			if code != impl.ErrNone {
				continue
			}
			found, code := impl.WordFromImage(h, image)
			if code != impl.ErrNone || len(found) > len(w) {
				t.Errorf("WordFromImage(%q, %q) = %q, %d, and it is the image of %q", h.Images, image, found, code, w)
			}
			again, code := impl.ImageOf(h, found)
			wantWord(t, fmt.Sprintf("ImageOf(%q, %q)", h.Images, found), again, code, image, impl.ErrNone)
		}
		for _, w := range words {
			if found, code := impl.WordFromImage(h, w); code == impl.ErrNone {
				image, code := impl.ImageOf(h, found)
				wantWord(t, fmt.Sprintf("ImageOf(%q, %q)", h.Images, found), image, code, w, impl.ErrNone)
			}
		}
	}
}

func TestTextsOfMorphisms(t *testing.T) {
	for _, text := range []string{"ab,a", "", "a", ",", ",,,,", "a,", ",a", twelve, twelve + ",bbbbbbbbbbbb", "b,c,d,e,a", "edcba,,a,bb,cde"} {
		got, code := impl.MorphismText(morphism(text))
		wantWord(t, fmt.Sprintf("MorphismText(%q)", strings.Split(text, ",")), got, code, text, impl.ErrNone)
	}
	for _, h := range someMorphisms() {
		text, code := impl.MorphismText(h)
		if code != impl.ErrNone {
			t.Errorf("MorphismText(%q): code %d", h.Images, code)
		}
		back, code := impl.ParseMorphism(text)
		wantMorphism(t, fmt.Sprintf("ParseMorphism(%q)", text), back, code, strings.Join(h.Images, ","), impl.ErrNone)
	}
}

// Texts of no morphism are wrong, whatever is wrong with them; the empty text has one image, which is empty.
func TestParseMorphism(t *testing.T) {
	texts := []string{",,,,,", "a,b,c,d,e,", ",a,b,c,d,e", "b", "a,c", "a,b,d", "ab ,a", "ab, a", " ", "ab;a", "ab,a\n", "\nab,a", "ab\x00,a", "AB,A", "ab,1",
		"[ab a]", twelve + "a", "a," + twelve + "b", "a,f", "\xff", "a,\u00e1", "ab,\u0430", strings.Repeat("a", 100000), strings.Repeat(",", 100000),
		strings.Repeat("a,", 5), strings.Repeat("abcde,", 10)}
	for _, w := range notWords {
		texts = append(texts, w, "a,"+w, w+",b")
	}
	for _, text := range texts {
		got, code := impl.ParseMorphism(text)
		wantMorphism(t, fmt.Sprintf("ParseMorphism(%.40q)", text), got, code, anError, impl.ErrSyntax)
	}
	for _, text := range []string{"", ",", ",,,,", "ab,a", twelve, "a,b,c,d," + strings.Repeat("e", 12)} {
		got, code := impl.ParseMorphism(text)
		wantMorphism(t, fmt.Sprintf("ParseMorphism(%q)", text), got, code, text, impl.ErrNone)
	}
}

// Every text of a few bytes is that of a morphism just if its parts are a morphism.
func TestParseMorphismAsDefined(t *testing.T) {
	for _, w := range allWords(6, 4) {
		text := strings.NewReplacer("c", ",", "d", "c").Replace(w)
		got, code := impl.ParseMorphism(text)
		if impl.IsMorphism(morphism(text)) {
			wantMorphism(t, fmt.Sprintf("ParseMorphism(%q)", text), got, code, text, impl.ErrNone)
			back, code := impl.MorphismText(got)
			wantWord(t, fmt.Sprintf("MorphismText(%q)", got.Images), back, code, text, impl.ErrNone)
		} else {
			wantMorphism(t, fmt.Sprintf("ParseMorphism(%q)", text), got, code, anError, impl.ErrSyntax)
		}
	}
}

// No function changes the list of images, or what is behind it.
func TestMorphismsStayAsTheyAre(t *testing.T) {
	all := []string{"ab", "ac", "b", "not a word", "another one"}
	h := impl.Morphism{Images: all[:3]}
	impl.IsMorphism(h)
	impl.ImageOf(h, "abc")
	impl.IterateOf(h, "abc", 3)
	composed, _ := impl.ComposeMorphisms(h, h)
	composed.Images[0] = "x"
	impl.GrownWord(h, 0, 20)
	impl.LengthsAfter(h, 0, 5)
	matrix, _ := impl.MatrixOf(h)
	matrix[0][0] = 77
	impl.IsPrimitive(h)
	impl.IsUniform(h)
	impl.TestLength(h)
	impl.FirstSquareMaker(h)
	impl.WordFromImage(h, "abac")
	impl.MorphismText(h)
	if want := []string{"ab", "ac", "b", "not a word", "another one"}; !slices.Equal(all, want) {
		t.Errorf("images are %q now, not %q", all, want)
	}
}

func TestResultsOfMorphismsAreNew(t *testing.T) {
	h := morphism("ab,a")
	resultsAreNew(t, "ComposeMorphisms", func() ([]string, int64) {
		composed, code := impl.ComposeMorphisms(h, morphism("a,b"))
		return composed.Images, code
	}, "x")
	resultsAreNew(t, "ParseMorphism", func() ([]string, int64) {
		parsed, code := impl.ParseMorphism("ab,a")
		return parsed.Images, code
	}, "x")
	resultsAreNew(t, "LengthsAfter", func() ([]int64, int64) { return impl.LengthsAfter(h, 0, 5) }, 77)
	pairsAreNew(t, "MatrixOf", func() ([][]int64, int64) { return impl.MatrixOf(h) })
}
