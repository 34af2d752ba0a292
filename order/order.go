// Package order: pairs by their keys.
package order

import (
	"slices"
	"strings"

	"threshfloor/api"
)

// Rises: does a list, by keys?
func Rises(l []api.Pair) bool {
	for i := 1; i < len(l); i++ {
		if l[i].Key < l[i-1].Key {
			return false
		}
	}
	return true
}

// Sort pairs by keys; those of one stay in their order.
func Sort(l []api.Pair) []api.Pair {
	sorted := make([]api.Pair, len(l))
	copy(sorted, l)
	slices.SortStableFunc(sorted, func(a, b api.Pair) int {
		return strings.Compare(a.Key, b.Key)
	})
	return sorted
}

// Merge lists, each of which rises: of pairs of one key those of the list ahead first.
func Merge(lists [][]api.Pair) []api.Pair {
	var all []api.Pair
	for _, l := range lists {
		all = append(all, l...)
	}
	return Sort(all) // it leaves pairs of one key as they stand: by their lists, then by their places
}
