package order_test

import (
	"slices"
	"testing"

	"threshfloor/api"
	"threshfloor/order"
)

// of: pairs of these keys; each value is its place, so that no two pairs are the same.
func of(keys ...string) []api.Pair {
	var l []api.Pair
	for i, k := range keys {
		l = append(l, api.Pair{Key: k, Val: i})
	}
	return l
}

// rising: keys as they rise, as bytes: noughts, capitals ahead of others, bytes above 127 behind all runes below.
var rising = []string{"", "\x00", "\x00a", "10", "9", "B", "a", "a\x00", "ab", "abc", "b", "z", "\u00e9", "\u65e5", "\U0001f33e", "\xff", "\xff\xff"}

// A4: every two keys, in either order.
func TestRisesOfTwo(t *testing.T) {
	for i, a := range rising {
		for k, b := range rising {
			if got := order.Rises(of(a, b)); got != (i <= k) {
				t.Errorf("Rises(%q, %q) = %v", a, b, got)
			}
		}
	}
}

// A4: short lists, and a fall at each place of a longer one.
func TestRises(t *testing.T) {
	for _, l := range [][]api.Pair{nil, {}, of("b"), of("a", "a", "a"), of(rising...), {{Key: "a", Val: 9}, {Key: "a", Val: 1}, {Key: "b", Val: -5}}} {
		if !order.Rises(l) {
			t.Errorf("Rises(%#v) = false", l)
		}
	}
	for i := 1; i < len(rising); i++ {
		keys := slices.Clone(rising)
		keys[i-1], keys[i] = keys[i], keys[i-1]
		if order.Rises(of(keys...)) {
			t.Errorf("Rises(%q) = true", keys)
		}
	}
}

// bySelection sorts slowly, one least pair after the other, the first of several: what Sort is held against.
func bySelection(l []api.Pair) []api.Pair {
	rest := slices.Clone(l)
	var sorted []api.Pair
	for len(rest) > 0 {
		least := 0
		for i := range rest {
			if rest[i].Key < rest[least].Key {
				least = i
			}
		}
		sorted = append(sorted, rest[least])
		rest = slices.Delete(rest, least, least+1)
	}
	return sorted
}

// everyList of so many pairs of these keys.
func everyList(many int, keys []string, see func([]api.Pair)) {
	picks := make([]string, many)
	var pick func(at int)
	pick = func(at int) {
		if at == many {
			see(of(picks...))
			return
		}
		for _, k := range keys {
			picks[at] = k
			pick(at + 1)
		}
	}
	pick(0)
}

// A4: all short lists of a few keys.
func TestSortOfShortLists(t *testing.T) {
	for many := range 7 {
		everyList(many, []string{"a", "", "ab", "\xff"}, func(l []api.Pair) {
			if got, want := order.Sort(l), bySelection(l); !slices.Equal(got, want) {
				t.Fatalf("Sort(%#v) = %#v, want %#v", l, got, want)
			}
		})
	}
}

// drawn: keys that look drawn, the same each time; few of them, so that many pairs have the same.
func drawn(many int, seed uint64) []string {
	keys := make([]string, many)
	for i := range keys {
		seed = seed*6364136223846793005 + 1442695040888963407
		keys[i] = rising[(seed>>33)%uint64(len(rising))]
	}
	return keys
}

// A4: long lists, at which ways of sorting change.
func TestSortOfLongLists(t *testing.T) {
	for _, many := range []int{12, 13, 20, 21, 50, 51, 200, 1000} {
		l := of(drawn(many, uint64(many))...)
		got := order.Sort(l)
		if !slices.Equal(got, bySelection(l)) {
			t.Errorf("Sort of %d pairs = %#v", many, got)
		}
		if !order.Rises(got) {
			t.Errorf("Sort of %d pairs doesn't rise", many)
		}
	}
}

// Z2: the list that is handed in stays as it is, what stands behind it too; the answer is other memory.
func TestSortIsFresh(t *testing.T) {
	whole := of("c", "a", "b", "a", "behind")
	kept := slices.Clone(whole)
	l := whole[:4]
	got := order.Sort(l)
	if !slices.Equal(whole, kept) {
		t.Errorf("Sort wrote into its list: %#v, was %#v", whole, kept)
	}
	for i := range got {
		got[i] = api.Pair{Key: "z"}
	}
	_ = append(got, api.Pair{Key: "z"})
	if !slices.Equal(whole, kept) {
		t.Errorf("Sort's answer shares memory with its list: %#v, was %#v", whole, kept)
	}
	rises := of("a", "b")
	order.Sort(rises)[0].Key = "z"
	if rises[0].Key != "a" {
		t.Error("Sort's answer shares memory with a list that rises")
	}
}

// A5: by hand: keys of several lists, lists without pairs, of any length.
func TestMerge(t *testing.T) {
	for _, c := range []struct {
		lists [][]api.Pair
		want  []api.Pair
	}{
		{nil, nil},
		{[][]api.Pair{}, nil},
		{[][]api.Pair{nil, {}, nil}, nil},
		{[][]api.Pair{{{Key: "a", Val: 1}}}, []api.Pair{{Key: "a", Val: 1}}},
		{
			[][]api.Pair{{{Key: "b", Val: 1}}, {{Key: "a", Val: 2}}, nil, {{Key: "", Val: 3}, {Key: "c", Val: 4}}},
			[]api.Pair{{Key: "", Val: 3}, {Key: "a", Val: 2}, {Key: "b", Val: 1}, {Key: "c", Val: 4}},
		},
		{
			[][]api.Pair{{{Key: "a", Val: 9}, {Key: "a", Val: 8}, {Key: "b", Val: 7}}, {{Key: "a", Val: 6}, {Key: "b", Val: 5}, {Key: "b", Val: 4}}, {{Key: "a", Val: 9}}},
			[]api.Pair{{Key: "a", Val: 9}, {Key: "a", Val: 8}, {Key: "a", Val: 6}, {Key: "a", Val: 9}, {Key: "b", Val: 7}, {Key: "b", Val: 5}, {Key: "b", Val: 4}},
		},
		{
			[][]api.Pair{{{Key: "\xff", Val: 1}}, {{Key: "Z", Val: 2}, {Key: "a", Val: 3}}, {{Key: "a", Val: 4}, {Key: "aa", Val: 5}}},
			[]api.Pair{{Key: "Z", Val: 2}, {Key: "a", Val: 3}, {Key: "a", Val: 4}, {Key: "aa", Val: 5}, {Key: "\xff", Val: 1}},
		},
	} {
		if got := order.Merge(c.lists); !slices.Equal(got, c.want) {
			t.Errorf("Merge(%#v) = %#v, want %#v", c.lists, got, c.want)
		}
	}
}

// byHeads merges slowly, one least head after the other, that of the list ahead first: what Merge is held against.
func byHeads(lists [][]api.Pair) []api.Pair {
	rest := slices.Clone(lists)
	var all []api.Pair
	for {
		least := -1
		for i, l := range rest {
			if len(l) > 0 && (least < 0 || l[0].Key < rest[least][0].Key) {
				least = i
			}
		}
		if least < 0 {
			return all
		}
		all = append(all, rest[least][0])
		rest[least] = rest[least][1:]
	}
}

// A5: lists of many lengths, with many pairs of one key.
func TestMergeOfDrawnLists(t *testing.T) {
	for seed := range 200 {
		var lists [][]api.Pair
		for i := range seed % 7 {
			lists = append(lists, order.Sort(of(drawn((seed*(i+3))%40, uint64(seed+i))...)))
			for k := range lists[i] {
				lists[i][k].Val += 1000 * i
			}
		}
		if got, want := order.Merge(lists), byHeads(lists); !slices.Equal(got, want) {
			t.Fatalf("Merge(%#v) = %#v, want %#v", lists, got, want)
		}
	}
}

// Z2: lists that are handed in stay as they are, what stands behind them too; the answer is other memory.
func TestMergeIsFresh(t *testing.T) {
	whole := of("a", "c", "behind", "it")
	kept := slices.Clone(whole)
	for _, lists := range [][][]api.Pair{{whole[:2]}, {whole[:2], of("b", "d")}, {nil, whole[:2], nil}} {
		got := order.Merge(lists)
		if !slices.Equal(whole, kept) {
			t.Fatalf("Merge wrote into a list: %#v, was %#v", whole, kept)
		}
		for i := range got {
			got[i] = api.Pair{Key: "z"}
		}
		_ = append(got, api.Pair{Key: "z"})
		if !slices.Equal(whole, kept) {
			t.Fatalf("Merge's answer shares memory with a list: %#v, was %#v", whole, kept)
		}
		if len(lists[0]) > 0 && &lists[0][0] != &whole[0] {
			t.Fatal("Merge put another list into the lists")
		}
	}
}
