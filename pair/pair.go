// Package pair: keys with values.
package pair

import (
	"strconv"
	"strings"

	"threshfloor/api"
)

// What the sum of a key begins as, and what it is multiplied by.
const (
	sumStart  uint32 = 2166136261
	sumFactor uint32 = 16777619
)

// Check a pair.
func Check(p api.Pair) error {
	if len(p.Key) > api.MaxKey || p.Val < -api.MaxVal || p.Val > api.MaxVal {
		return api.ErrBound
	}
	return nil
}

// Sum of a key.
func Sum(s string) uint32 {
	h := sumStart
	for i := range len(s) { // bytes: a range over the text itself would go by runes
		h = (h ^ uint32(s[i])) * sumFactor
	}
	return h
}

// Slice of a key, of so many.
func Slice(key string, many int) int {
	if many < 1 { // nothing is said of these, but no call may panic
		return 0
	}
	return int(uint64(Sum(key)) % uint64(many))
}

// Text of pairs: of each how long its key is, it, its value.
func Text(l []api.Pair) string {
	var b strings.Builder
	for _, p := range l {
		b.WriteString(strconv.Itoa(len(p.Key)))
		b.WriteByte(':')
		b.WriteString(p.Key)
		b.WriteByte(' ')
		b.WriteString(strconv.Itoa(p.Val))
		b.WriteByte('\n')
	}
	return b.String()
}

// Parse pairs.
func Parse(s string) ([]api.Pair, error) {
	var l []api.Pair
	for s != "" {
		p, rest, ok := first(s)
		if !ok {
			return nil, api.ErrText
		}
		l = append(l, p)
		s = rest
	}
	return l, nil
}

// first pair that a text begins with, and what stands behind it.
func first(s string) (p api.Pair, rest string, ok bool) {
	key, rest, ok := cutKey(s)
	if !ok || rest == "" || rest[0] != ' ' {
		return api.Pair{}, "", false
	}
	told, rest, ended := strings.Cut(rest[1:], "\n")
	val, ok := Number(told)
	if !ended || !ok {
		return api.Pair{}, "", false
	}
	return api.Pair{Key: key, Val: val}, rest, true
}

// cutKey off a text that begins with how many bytes the key has: a key may have any bytes, so these alone tell its end.
func cutKey(s string) (key, rest string, ok bool) {
	told, rest, colon := strings.Cut(s, ":")
	size, ok := Number(told)
	if !colon || !ok || size < 0 || size > len(rest) {
		return "", "", false
	}
	return rest[:size], rest[size:], true
}

// Number that a text tells. Telling it anew shuts out what the library reads, and no Text has: '+', noughts ahead, "-0".
func Number(s string) (int, bool) {
	n, err := strconv.Atoi(s)
	if err != nil || strconv.Itoa(n) != s {
		return 0, false
	}
	return n, true
}
