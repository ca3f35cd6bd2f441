package impl

import (
	"iter"
	"maps"
	"slices"
	"strings"
)

const (
	ErrNone = iota
	ErrInvalid
	ErrRange
	ErrLimit
	ErrNotFound
	ErrState
	ErrSyntax
)
const (
	MaxWord    = 60
	MaxLetters = 5
)

const (
	maxPower     = 1000
	maxScattered = 6
	maxListed    = 256
)

// Slices, sums and repetitions of strings may be the memory of an operand, and results share none with arguments:
// that is why the functions of this file clone them before they return them.

// IsWord reports whether w is a word.
func IsWord(w string) bool {
	if len(w) > MaxWord {
		return false
	}
	for _, letter := range w {
		if letter < 'a' || letter >= 'a'+MaxLetters {
			return false
		}
	}
	return true
}

// areWords reports whether all strings of a list are words.
func areWords(list ...string) bool {
	for _, w := range list {
		if !IsWord(w) {
			return false
		}
	}
	return true
}

// areLetterNumbers reports whether all numbers of a list are numbers of letters.
func areLetterNumbers(list []int64) bool {
	for _, number := range list {
		if number < 0 || number >= MaxLetters {
			return false
		}
	}
	return true
}

// factorsIn ranges over the places of the factors of w with the length m, of at least 0, and over these factors.
func factorsIn(w string, m int64) iter.Seq2[int64, string] {
	return func(yield func(int64, string) bool) {
		for i := int64(0); i+m <= int64(len(w)); i++ {
			if !yield(i, w[i:i+m]) {
				return
			}
		}
	}
}

// ProductOf returns the product, and ErrNone. Errors: ErrLimit if it would have more than MaxWord
// letters.
func ProductOf(w string, u string) (string, int64) {
	if !areWords(w, u) {
		return "", ErrInvalid
	}
	if len(w)+len(u) > MaxWord {
		return "", ErrLimit
	}
	return strings.Clone(w + u), ErrNone
}

// PowerOf returns the power of w and k, in 0..1000, and ErrNone. Errors: ErrLimit as for ProductOf.
func PowerOf(w string, k int64) (string, int64) {
	if !IsWord(w) {
		return "", ErrInvalid
	}
	if k < 0 || k > maxPower {
		return "", ErrRange
	}
	if int64(len(w))*k > MaxWord {
		return "", ErrLimit
	}
	return strings.Clone(strings.Repeat(w, int(k))), ErrNone
}

// ReverseOf returns the reversed word, and ErrNone.
func ReverseOf(w string) (string, int64) {
	if !IsWord(w) {
		return "", ErrInvalid
	}
	letters := []byte(w)
	slices.Reverse(letters)
	return string(letters), ErrNone
}

// TurnWord returns w turned by k, in 0..n for n letters, and ErrNone.
func TurnWord(w string, k int64) (string, int64) {
	if !IsWord(w) {
		return "", ErrInvalid
	}
	if k < 0 || k > int64(len(w)) {
		return "", ErrRange
	}
	return strings.Clone(w[k:] + w[:k]), ErrNone
}

// RenameLetters returns w with its letters renamed, and ErrNone.
func RenameLetters(w string, p []int64) (string, int64) {
	if !IsWord(w) {
		return "", ErrInvalid
	}
	if len(p) != MaxLetters || !areLetterNumbers(p) {
		return "", ErrRange
	}
	numbers := numbersOf(w)
	for i, number := range numbers {
		numbers[i] = p[number]
	}
	return wordOf(numbers), ErrNone
}

// FactorAt returns the factor of w at i, of at least 0, with the length m, of at least 0, i + m
// being at most the number of letters, and ErrNone.
func FactorAt(w string, i int64, m int64) (string, int64) {
	if !IsWord(w) {
		return "", ErrInvalid
	}
	n := int64(len(w))
	// The sum i + m could overflow; the difference of n and an i in 0..n cannot.
	if i < 0 || m < 0 || i > n || m > n-i {
		return "", ErrRange
	}
	return strings.Clone(w[i : i+m]), ErrNone
}

// PlacesOf returns the places of w at which u is, ascending, and ErrNone.
func PlacesOf(w string, u string) ([]int64, int64) {
	if !areWords(w, u) {
		return nil, ErrInvalid
	}
	var places []int64
	for place, factor := range factorsIn(w, int64(len(u))) {
		if factor == u {
			places = append(places, place)
		}
	}
	return places, ErrNone
}

// FactorsOf returns the different factors of w with the length m, in 0..MaxWord, in order, and
// ErrNone.
func FactorsOf(w string, m int64) ([]string, int64) {
	if !IsWord(w) {
		return nil, ErrInvalid
	}
	if m < 0 || m > MaxWord {
		return nil, ErrRange
	}
	different := map[string]bool{}
	for _, factor := range factorsIn(w, m) {
		different[strings.Clone(factor)] = true
	}
	return slices.Sorted(maps.Keys(different)), ErrNone
}

// CountLetters returns how often each of the letters `a` to `e` stands in w, and ErrNone.
func CountLetters(w string) ([]int64, int64) {
	if !IsWord(w) {
		return nil, ErrInvalid
	}
	counts := make([]int64, MaxLetters)
	for _, letter := range w {
		counts[letter-'a']++
	}
	return counts, ErrNone
}

// CommonBeginning returns the longest word with which both words begin, and ErrNone.
func CommonBeginning(w string, u string) (string, int64) {
	if !areWords(w, u) {
		return "", ErrInvalid
	}
	n := 0
	for n < min(len(w), len(u)) && w[n] == u[n] {
		n++
	}
	return strings.Clone(w[:n]), ErrNone
}

// CommonEnd returns the longest word with which both words end, and ErrNone.
func CommonEnd(w string, u string) (string, int64) {
	if !areWords(w, u) {
		return "", ErrInvalid
	}
	n := 0
	for n < min(len(w), len(u)) && w[len(w)-1-n] == u[len(u)-1-n] {
		n++
	}
	return strings.Clone(w[len(w)-n:]), ErrNone
}

// IsScattered reports whether w is scattered in u, and returns ErrNone.
func IsScattered(w string, u string) (bool, int64) {
	if !areWords(w, u) {
		return false, ErrInvalid
	}
	found := 0
	for _, letter := range u {
		if found < len(w) && rune(w[found]) == letter {
			found++
		}
	}
	return found == len(w), ErrNone
}

// CountScattered returns at how many different sets of places w, of at most 6 letters, is scattered
// in u, and ErrNone. Errors: ErrRange if w has more letters.
func CountScattered(w string, u string) (int64, int64) {
	if !areWords(w, u) {
		return 0, ErrInvalid
	}
	if len(w) > maxScattered {
		return 0, ErrRange
	}
	counts := make([]int64, len(w)+1)
	counts[0] = 1
	for _, letter := range u {
		// Longer beginnings of w come first, as one letter of u serves for one letter of w only.
		for i := len(w) - 1; i >= 0; i-- {
			if rune(w[i]) == letter {
				counts[i+1] += counts[i]
			}
		}
	}
	return counts[len(w)], ErrNone
}

// CompareWords returns -1, 0 or 1 if w comes before u, is u, or comes behind it, and ErrNone.
func CompareWords(w string, u string) (int64, int64) {
	if !areWords(w, u) {
		return 0, ErrInvalid
	}
	return int64(strings.Compare(w, u)), ErrNone
}

// WordsOf returns all words of m letters, in 0..MaxWord, with the first k letters alone, k in
// 1..MaxLetters, in order, and ErrNone. Errors: ErrLimit if there are more than 256.
func WordsOf(m int64, k int64) ([]string, int64) {
	if m < 0 || m > MaxWord || k < 1 || k > MaxLetters {
		return nil, ErrRange
	}
	words := []string{""}
	for range m {
		if int64(len(words))*k > maxListed {
			return nil, ErrLimit
		}
		words = longerWords(words, k)
	}
	return words, ErrNone
}

// longerWords returns the words of a list, each with each of the first k letters behind it.
func longerWords(words []string, k int64) []string {
	var longer []string
	for _, w := range words {
		for number := range k {
			longer = append(longer, w+string(letterOf(number)))
		}
	}
	return longer
}

// letterOf returns the letter with a number.
func letterOf(number int64) rune {
	return 'a' + rune(number)
}

// LettersOf returns the numbers of the letters of w, in order, and ErrNone.
func LettersOf(w string) ([]int64, int64) {
	if !IsWord(w) {
		return nil, ErrInvalid
	}
	return numbersOf(w), ErrNone
}

// numbersOf returns the numbers of the letters of a word.
func numbersOf(w string) []int64 {
	var numbers []int64
	for _, letter := range w {
		numbers = append(numbers, int64(letter-'a'))
	}
	return numbers
}

// WordOfLetters returns the word whose letters have the numbers of a list, each in 0..4, at most
// MaxWord of them, and ErrNone.
func WordOfLetters(list []int64) (string, int64) {
	if len(list) > MaxWord || !areLetterNumbers(list) {
		return "", ErrRange
	}
	return wordOf(list), ErrNone
}

// wordOf returns the word whose letters have the numbers of a list.
func wordOf(numbers []int64) string {
	var word strings.Builder
	for _, number := range numbers {
		word.WriteRune(letterOf(number))
	}
	return word.String()
}

// NamedWord returns the first m letters, m in 0..MaxWord, of the word with a name, and ErrNone.
// Errors: ErrNotFound if there is none.
func NamedWord(name string, m int64) (string, int64) {
	if m < 0 || m > MaxWord {
		return "", ErrRange
	}
	images := imagesOfName(name)
	if images == nil {
		return "", ErrNotFound
	}
	// The word is the product of the images of its own letters; as the image of its first letter
	// has more than one, there is always a next letter whose image goes behind.
	word := images[0]
	for i := 1; int64(len(word)) < m; i++ {
		word += images[word[i]-'a']
	}
	return word[:m], ErrNone
}

// imagesOfName returns the words by which the letters of the word with a name are replaced, none if there is no such word.
func imagesOfName(name string) []string {
	switch name {
	case "fibonacci":
		return []string{"ab", "a"}
	case "thue":
		return []string{"ab", "ba"}
	case "doubling":
		return []string{"ab", "aa"}
	case "triple":
		return []string{"abc", "ac", "b"}
	}
	return nil
}
