package library

import (
	"strconv"
	"strings"

	"sackbut/api"
)

const (
	maxLine   = 60
	maxName   = 8
	maxNumber = 9999
)

// words are those behind the first word of a line.
type words struct {
	kinds   string // a for each name, 0 for each number, and ? for what is neither
	names   []string
	numbers []int
}

// sentence says what the lines with a certain first word look like, and what they mean.
type sentence[T any] struct {
	kinds string // of the words behind the first one
	more  string // of words that may follow, the last ones of which may be left out
	means func(words) (T, api.Errno)
}

// meaning returns what a line means if it is one of the sentences, which are known by their first words. Names and numbers with single blanks between them have no other bytes than those of a line.
func meaning[T any](line string, known map[string]sentence[T]) (T, api.Errno) {
	var none T
	if len(line) > maxLine {
		return none, api.ErrForm
	}
	list := strings.Split(line, " ")
	s, ok := known[list[0]]
	w := wordsOf(list[1:])
	if !ok || !s.fits(w) {
		return none, api.ErrForm
	}
	return s.means(w)
}

func (s sentence[T]) fits(w words) bool {
	more, ok := strings.CutPrefix(w.kinds, s.kinds)
	return ok && strings.HasPrefix(s.more, more)
}

func wordsOf(list []string) words {
	var w words
	for _, word := range list {
		number, ok := numberOf(word)
		switch {
		case ok:
			w.kinds += "0"
			w.numbers = append(w.numbers, number)
		case isName(word):
			w.kinds += "a"
			w.names = append(w.names, word)
		default:
			w.kinds += "?"
		}
	}
	return w
}

func isName(word string) bool {
	return len(word) >= 1 && len(word) <= maxName && isOf(word, "abcdefghijklmnopqrstuvwxyz")
}

// isOf reports whether a word is made of some letters.
func isOf(word, letters string) bool {
	return strings.Trim(word, letters) == ""
}

// numberOf returns the number that a word is, and whether it is one. Only a number without a sign or a leading zero is written anew as it was.
func numberOf(word string) (int, bool) {
	number, _ := strconv.Atoi(word)
	if number < 0 || number > maxNumber || strconv.Itoa(number) != word {
		return 0, false
	}
	return number, true
}

func numerals(numbers ...int) []string {
	var list []string
	for _, number := range numbers {
		list = append(list, strconv.Itoa(number))
	}
	return list
}

func firstWord(line string) string {
	first, _, _ := strings.Cut(line, " ")
	return first
}

func joined(first string, others []string) string {
	return strings.Join(append([]string{first}, others...), " ")
}
