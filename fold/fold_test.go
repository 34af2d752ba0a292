package fold_test

import (
	"math"
	"slices"
	"testing"

	"threshfloor/api"
	"threshfloor/fold"
	"threshfloor/order"
)

// kinds that there are, and some that there are not.
var (
	kinds = []int{api.Sum, api.Least, api.Greatest, api.Count}
	none  = []int{0, 5, -1, math.MaxInt, math.MinInt}
)

// die: numbers that look drawn, the same each time.
type die uint64

func (d *die) n(most int) int {
	*d = *d*6364136223846793005 + 1442695040888963407
	return int(uint64(*d>>33) % uint64(most))
}

// drawn: so many pairs of a few keys, that rise.
func drawn(d *die, many int) []api.Pair {
	keys := []string{"", "a", "a\x00", "ab", "b", "\u00e9", "\xff"}
	var l []api.Pair
	for range many {
		l = append(l, api.Pair{Key: keys[d.n(len(keys))], Val: d.n(2000) - 1000})
	}
	return order.Sort(l)
}

// D1: four kinds, and no other.
func TestCheck(t *testing.T) {
	for _, k := range kinds {
		if err := fold.Check(k); err != nil {
			t.Errorf("Check(%d) = %v, want none", k, err)
		}
	}
	for _, k := range none {
		if err := fold.Check(k); err != api.ErrShape {
			t.Errorf("Check(%d) = %v, want %v", k, err, api.ErrShape)
		}
	}
}

// D1: a value alone: of Count 1, else it.
func TestFirst(t *testing.T) {
	for _, v := range []int{0, 1, -1, 7, api.MaxVal, -api.MaxVal, 1 << 40, -1 << 40, math.MaxInt, math.MinInt} {
		for _, k := range kinds {
			want := v
			if k == api.Count {
				want = 1
			}
			if got := fold.First(k, v); got != want {
				t.Errorf("First(%d, %d) = %d, want %d", k, v, got, want)
			}
		}
	}
}

// D1: two values: the lesser one, the greater one, or both together; of Count together, too.
func TestTwo(t *testing.T) {
	const far = 1 << 40
	for _, c := range []struct{ a, b, sum, least, greatest int }{
		{0, 0, 0, 0, 0},
		{1, 2, 3, 1, 2},
		{2, 1, 3, 1, 2},
		{5, 5, 10, 5, 5},
		{-3, 2, -1, -3, 2},
		{2, -3, -1, -3, 2},
		{-3, -4, -7, -4, -3},
		{api.MaxVal, api.MaxVal, 2 * api.MaxVal, api.MaxVal, api.MaxVal},
		{-api.MaxVal, api.MaxVal, 0, -api.MaxVal, api.MaxVal},
		{far, far, 2 * far, far, far},
		{-far, -far, -2 * far, -far, -far},
		{-far, far, 0, -far, far},
	} {
		for k, want := range map[int]int{api.Sum: c.sum, api.Count: c.sum, api.Least: c.least, api.Greatest: c.greatest} {
			if got := fold.Two(k, c.a, c.b); got != want {
				t.Errorf("Two(%d, %d, %d) = %d, want %d", k, c.a, c.b, got, want)
			}
		}
	}
}

// W5: three values, in any groups and order.
func TestTwoOfThree(t *testing.T) {
	d := die(1)
	for range 500 {
		a, b, c := d.n(2000)-1000, d.n(2000)-1000, d.n(2000)-1000
		for _, k := range kinds {
			want := fold.Two(k, fold.Two(k, a, b), c)
			if got := fold.Two(k, a, fold.Two(k, b, c)); got != want {
				t.Errorf("kind %d: %d, (%d, %d) = %d, want %d", k, a, b, c, got, want)
			}
			if got := fold.Two(k, fold.Two(k, c, a), b); got != want {
				t.Errorf("kind %d: (%d, %d), %d = %d, want %d", k, c, a, b, got, want)
			}
		}
	}
}

// D2: by hand: of each key one pair; values of Count are folded already, and not counted again.
func TestGroups(t *testing.T) {
	l := []api.Pair{{Key: "", Val: 4}, {Key: "a", Val: 3}, {Key: "a", Val: -5}, {Key: "a", Val: 9}, {Key: "ab", Val: 7}, {Key: "b", Val: -2}, {Key: "b", Val: -2}}
	sums := []api.Pair{{Key: "", Val: 4}, {Key: "a", Val: 7}, {Key: "ab", Val: 7}, {Key: "b", Val: -4}}
	for kind, want := range map[int][]api.Pair{
		api.Sum:      sums,
		api.Count:    sums,
		api.Least:    {{Key: "", Val: 4}, {Key: "a", Val: -5}, {Key: "ab", Val: 7}, {Key: "b", Val: -2}},
		api.Greatest: {{Key: "", Val: 4}, {Key: "a", Val: 9}, {Key: "ab", Val: 7}, {Key: "b", Val: -2}},
	} {
		if got := fold.Groups(kind, l); !slices.Equal(got, want) {
			t.Errorf("Groups(%d) = %v, want %v", kind, got, want)
		}
	}
}

// D2: short lists, and keys that differ by little.
func TestGroupsOfFew(t *testing.T) {
	for _, k := range kinds {
		for _, l := range [][]api.Pair{nil, {}} {
			if got := fold.Groups(k, l); len(got) != 0 {
				t.Errorf("Groups(%d) of none = %v", k, got)
			}
		}
		for _, l := range [][]api.Pair{
			{{Key: "a", Val: -9}},
			{{Key: "", Val: 0}},
			{{Key: "", Val: 1}, {Key: "\x00", Val: 1}, {Key: "A", Val: 1}, {Key: "a", Val: 1}, {Key: "a\x00", Val: 1}, {Key: "a ", Val: 1}, {Key: "\xff", Val: 1}},
		} {
			if got := fold.Groups(k, l); !slices.Equal(got, l) {
				t.Errorf("Groups(%d, %v) = %v, want the same", k, l, got)
			}
		}
	}
}

// slowly: each key's values, looked for in the whole list, folded one behind the other: what Groups is held against.
func slowly(kind int, l []api.Pair) []api.Pair {
	var out []api.Pair
	for i, p := range l {
		if slices.ContainsFunc(l[:i], func(q api.Pair) bool { return q.Key == p.Key }) {
			continue
		}
		for _, q := range l[i+1:] {
			if q.Key != p.Key {
				continue
			}
			switch {
			case kind == api.Sum, kind == api.Count:
				p.Val += q.Val
			case kind == api.Least && q.Val < p.Val, kind == api.Greatest && q.Val > p.Val:
				p.Val = q.Val
			}
		}
		out = append(out, p)
	}
	return out
}

// D2: lists of many lengths.
func TestGroupsOfDrawnLists(t *testing.T) {
	d := die(2)
	for i := range 300 {
		l := drawn(&d, i%40)
		for _, k := range kinds {
			if got, want := fold.Groups(k, l), slowly(k, l); !slices.Equal(got, want) {
				t.Fatalf("Groups(%d, %v) = %v, want %v", k, l, got, want)
			}
		}
	}
}

// W5: what is folded early, in two lists, in either order, and twice, is the same in the end.
func TestGroupsOfGroups(t *testing.T) {
	d := die(3)
	for i := range 200 {
		a, b := drawn(&d, i%20), drawn(&d, i%13)
		for _, k := range kinds {
			want := fold.Groups(k, order.Merge([][]api.Pair{a, b}))
			early := fold.Groups(k, order.Merge([][]api.Pair{fold.Groups(k, b), fold.Groups(k, a)}))
			if !slices.Equal(early, want) {
				t.Fatalf("kind %d: %v and %v early = %v, want %v", k, a, b, early, want)
			}
			if again := fold.Groups(k, want); !slices.Equal(again, want) {
				t.Fatalf("Groups(%d, %v) = %v, want the same", k, want, again)
			}
		}
	}
}

// Z2: the list that is handed in stays as it is, what stands behind it too; the answer is other memory.
func TestGroupsIsFresh(t *testing.T) {
	whole := []api.Pair{{Key: "a", Val: 1}, {Key: "a", Val: 2}, {Key: "b", Val: 3}, {Key: "b", Val: 4}}
	kept := slices.Clone(whole)
	for _, k := range kinds {
		for many := range len(whole) {
			got := fold.Groups(k, whole[:many])
			if want := slowly(k, kept[:many]); !slices.Equal(got, want) {
				t.Errorf("Groups(%d) of %d pairs = %v, want %v", k, many, got, want)
			}
			for i := range got {
				got[i] = api.Pair{Key: "z"}
			}
			_ = append(got, api.Pair{Key: "z"})
			if !slices.Equal(whole, kept) {
				t.Fatalf("Groups(%d) of %d pairs left %v, was %v", k, many, whole, kept)
			}
		}
	}
}

// Z1: no panic at any kinds and numbers, nor at lists that fall.
func TestEnds(t *testing.T) {
	for _, k := range slices.Concat(kinds, none) {
		for _, a := range []int{0, math.MaxInt, math.MinInt} {
			for _, b := range []int{-1, math.MaxInt, math.MinInt} {
				fold.First(k, a)
				fold.Two(k, a, b)
				fold.Groups(k, []api.Pair{{Key: "b", Val: a}, {Key: "b", Val: b}, {Key: "a", Val: a}, {Key: "b", Val: b}})
			}
		}
	}
}
