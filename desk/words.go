package desk

import (
	"strconv"
	"strings"

	"primrose/api"
	"primrose/mono"
)

// maxDigits is the greatest length of a number in a line.
const maxDigits = 7

// linesOf returns the lines of a script, the last of which need not end.
func linesOf(script string) []string {
	lines := strings.Split(script, "\n")
	last := len(lines) - 1
	if lines[last] == "" {
		return lines[:last]
	}
	return lines
}

// withText returns the command, the name and the text of a line: the text has spaces of
// its own.
func withText(line string) (words []string, ok bool) {
	words = strings.SplitN(line, " ", 3)
	return words, len(words) == 3
}

// number returns the number that a word is.
func number(word string) (n int, ok bool) {
	n, err := strconv.Atoi(word)
	if err != nil || n < 0 || len(word) > maxDigits || strconv.Itoa(n) != word {
		return 0, false
	}
	return n, true
}

// order returns the order that a word stands for, and none that a ring can have for any
// other word.
func order(word string) int {
	switch word {
	case "lex":
		return api.Lex
	case "grlex":
		return api.Grlex
	case "grevlex":
		return api.Grevlex
	}
	return -1
}

// isName reports whether a word could be the name of a variable: mono tells this of the
// names of a ring only.
func isName(word string) bool {
	return mono.Check(api.Ring{Names: []string{word}}) == api.OK
}
