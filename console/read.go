package console

import (
	"strings"

	"threshfloor/api"
	"threshfloor/pair"
)

// Numbers of a line: the least and the greatest one.
const (
	leastNumber = -1
	mostNumber  = 999
)

// What a task does, as a number of a line.
const (
	maps  = 0
	folds = 1
)

// said: what a line says: its first word, and behind it a text, or numbers. Of a task also what it does is one of these.
type said struct {
	verb, text string
	n          []int
}

// read a line.
func read(line string) (said, error) {
	if len(line) > api.MaxLine {
		return said{}, api.ErrText
	}
	verb, text, more := strings.Cut(line, " ")
	if verb == "rule" || verb == "record" {
		if !more {
			return said{}, api.ErrText
		}
		return said{verb: verb, text: text}, nil
	}
	var words []string
	if more {
		words = strings.Split(text, " ")
	}
	n, ok := numbers(verb, words)
	if !ok {
		return said{}, api.ErrText
	}
	return said{verb: verb, n: n}, nil
}

// numbers that are behind a verb; false: these words may not be there.
func numbers(verb string, words []string) ([]int, bool) {
	shape, ok := shapeOf(verb, len(words))
	if !ok || len(shape) != len(words) {
		return nil, false
	}
	var n []int
	for i, w := range words {
		k, ok := one(shape[i], w)
		if !ok {
			return nil, false
		}
		n = append(n, k)
	}
	return n, true
}

// shapeOf what is behind a verb: a byte of each word, 'n' of a number, 't' of what a task does. Of a floor there may be more or fewer words.
func shapeOf(verb string, words int) (string, bool) {
	switch verb {
	case "clear", "job", "has":
		return "", true
	case "offer", "crash", "status", "out", "recover":
		return "n", true
	case "submit", "work", "suspend", "kill", "in":
		return "nn", true
	case "again":
		return "nntn", true
	case "floor":
		return strings.Repeat("n", words), words >= 2 && words%2 == 0
	}
	return "", false
}

// one word of a line, as a number.
func one(shape byte, word string) (int, bool) {
	if shape == 't' {
		return doing(word)
	}
	n, ok := pair.Number(word)
	if !ok || n < leastNumber || n > mostNumber {
		return 0, false
	}
	return n, true
}

// doing: what a task does.
func doing(word string) (int, bool) {
	switch word {
	case "map":
		return maps, true
	case "fold":
		return folds, true
	}
	return 0, false
}
