package folder_test

import (
	"math"
	"slices"
	"strconv"
	"strings"
	"testing"

	"threshfloor/api"
	"threshfloor/fold"
	"threshfloor/folder"
	"threshfloor/job"
	"threshfloor/mapper"
	"threshfloor/order"
	"threshfloor/pair"
)

// kinds that there are.
var kinds = []int{api.Sum, api.Least, api.Greatest, api.Count}

// start a run that may be.
func start(t *testing.T, kind int, lists [][]api.Pair) *folder.Run {
	t.Helper()
	r, err := folder.New(kind, lists)
	if err != nil || r == nil {
		t.Fatalf("New(%d) = %v, %v", kind, r, err)
	}
	return r
}

// die: numbers that look drawn, the same each time.
type die uint64

func (d *die) n(most int) int {
	*d = *d*6364136223846793005 + 1442695040888963407
	return int(uint64(*d>>33) % uint64(most))
}

// drawn: lists of a few keys, each of which rises.
func drawn(d *die) [][]api.Pair {
	keys := []string{"", "a", "a\x00", "ab", "b", "1:x", "x\ny", "\u00e9", "\xff"}
	var lists [][]api.Pair
	for range d.n(6) {
		var l []api.Pair
		for range d.n(9) {
			l = append(l, api.Pair{Key: keys[d.n(len(keys))], Val: d.n(2000) - 1000})
		}
		lists = append(lists, order.Sort(l))
	}
	return lists
}

// slowly: each key's values of all lists, by hand, rising: what runs are held against.
func slowly(kind int, lists [][]api.Pair) []api.Pair {
	vals := map[string][]int{}
	var keys []string
	for _, p := range slices.Concat(lists...) {
		if vals[p.Key] == nil {
			keys = append(keys, p.Key)
		}
		vals[p.Key] = append(vals[p.Key], p.Val)
	}
	slices.Sort(keys)
	var out []api.Pair
	for _, k := range keys {
		sum := 0
		for _, v := range vals[k] {
			sum += v
		}
		switch kind {
		case api.Least:
			sum = slices.Min(vals[k])
		case api.Greatest:
			sum = slices.Max(vals[k])
		}
		out = append(out, api.Pair{Key: k, Val: sum})
	}
	return out
}

// E4: kinds that are none are refused, whatever the lists are.
func TestNewErrors(t *testing.T) {
	for _, kind := range []int{0, 5, -1, math.MaxInt, math.MinInt} {
		for _, lists := range [][][]api.Pair{nil, {{{Key: "a", Val: 1}}}} {
			if r, err := folder.New(kind, lists); r != nil || err != api.ErrShape {
				t.Errorf("New(%d) = %v, %v, want %v", kind, r, err, api.ErrShape)
			}
		}
	}
}

// E4: by hand, key by key: values of all lists; those of Count are folded already, and not counted again.
func TestOut(t *testing.T) {
	lists := [][]api.Pair{
		{{Key: "b", Val: 2}, {Key: "b", Val: 5}, {Key: "c", Val: -1}},
		nil,
		{{Key: "", Val: 0}, {Key: "b", Val: 3}},
		{{Key: "a b", Val: 7}, {Key: "c", Val: -4}},
	}
	for kind, want := range map[int][]string{
		api.Sum:      {"0: 0\n", "3:a b 7\n", "1:b 10\n", "1:c -5\n"},
		api.Count:    {"0: 0\n", "3:a b 7\n", "1:b 10\n", "1:c -5\n"},
		api.Least:    {"0: 0\n", "3:a b 7\n", "1:b 2\n", "1:c -4\n"},
		api.Greatest: {"0: 0\n", "3:a b 7\n", "1:b 5\n", "1:c -1\n"},
	} {
		r := start(t, kind, lists)
		for at := 0; at <= len(want); at++ {
			if got, w := r.Out(), strings.Join(want[:at], ""); got != w {
				t.Errorf("kind %d at %d: Out = %q, want %q", kind, at, got, w)
			}
			if over := r.Step(1); over != (at >= len(want)-1) {
				t.Errorf("kind %d at %d: Step(1) = %t", kind, at, over)
			}
		}
	}
}

// E4: how far each Step goes, and whether all are done.
func TestStep(t *testing.T) {
	for _, c := range []struct {
		keys      int
		steps, at []int
	}{
		{0, []int{0, 1, -1, math.MaxInt, math.MinInt}, []int{0, 0, 0, 0, 0}},
		{1, []int{0, -1, 1, 1, -1, 0}, []int{0, 0, 1, 1, 1, 1}},
		{3, []int{1, 1, 1, 1}, []int{1, 2, 3, 3}},
		{3, []int{2, 2}, []int{2, 3}},
		{3, []int{math.MinInt, math.MaxInt, math.MinInt}, []int{0, 3, 3}},
		{3, []int{1, math.MaxInt, math.MaxInt}, []int{1, 3, 3}},
		{3, []int{2, -1, 0, -2, 1}, []int{2, 2, 2, 2, 3}},
		{300, []int{299, 1}, []int{299, 300}},
	} {
		var l []api.Pair
		for i := range c.keys { // of each key two pairs: keys are counted, not these
			k := strconv.Itoa(1000 + i)
			l = append(l, api.Pair{Key: k, Val: 1}, api.Pair{Key: k, Val: 2})
		}
		r := start(t, api.Sum, [][]api.Pair{l, l})
		if r.Out() != "" {
			t.Errorf("a new run has %q", r.Out())
		}
		for i, s := range c.steps {
			over := r.Step(s)
			if at := strings.Count(r.Out(), " 6\n"); over != (c.at[i] == c.keys) || at != c.at[i] {
				t.Errorf("%d keys: Step(%d) = %t, at %d, want %d", c.keys, s, over, at, c.at[i])
			}
		}
	}
}

// E4: nothing to fold is done at once.
func TestNothing(t *testing.T) {
	for _, lists := range [][][]api.Pair{nil, {}, {nil}, {{}, nil, {}}} {
		r := start(t, api.Sum, lists)
		if !r.Step(-1) || r.Out() != "" || !r.Load(r.Save()) || !r.Step(1) || r.Out() != "" {
			t.Errorf("a run over %v has %q", lists, r.Out())
		}
	}
}

// E4, W3: in whichever steps a run goes, and wherever it is saved, and loaded by a run that stands elsewhere, it is the same.
func TestSaved(t *testing.T) {
	d := die(4)
	for range 100 {
		lists := drawn(&d)
		for _, kind := range kinds {
			want, at := slowly(kind, lists), 0
			r := start(t, kind, lists)
			for over := false; !over; {
				many := d.n(4) - 1
				over = r.Step(many)
				at = min(at+max(many, 0), len(want))
				if got, w := r.Out(), pair.Text(want[:at]); got != w || over != (at == len(want)) {
					t.Fatalf("kind %d at %d: Out = %q, %t, want %q", kind, at, got, over, w)
				}
				other := start(t, kind, lists)
				other.Step(d.n(9))
				s := r.Save()
				if s != r.Save() || !other.Load(s) || other.Out() != r.Out() || other.Save() != s || other.Step(0) != over {
					t.Fatalf("Load(%q): %q, want %q", s, other.Out(), r.Out())
				}
				if d.n(2) == 0 {
					r = other
				}
			}
		}
	}
}

// E4: what was saved stays as it is, while the run goes on; a run may be put back by it.
func TestSavedStays(t *testing.T) {
	r := start(t, api.Sum, [][]api.Pair{{{Key: "a", Val: 1}, {Key: "b", Val: 2}, {Key: "c", Val: 3}}})
	r.Step(1)
	s := r.Save()
	for range 3 {
		if !r.Step(9) || r.Out() != "1:a 1\n1:b 2\n1:c 3\n" {
			t.Fatalf("Out = %q", r.Out())
		}
		if !r.Load(s) || r.Out() != "1:a 1\n" {
			t.Fatalf("back at %q", r.Out())
		}
	}
}

// stands: a run stands somewhere: its keys go up to their end from there, and each is there once.
func stands(t *testing.T, r *folder.Run, keys []string, s string) {
	t.Helper()
	if !r.Step(len(keys)) {
		t.Fatalf("Load(%q): it isn't over: %q", s, r.Out())
	}
	l, err := pair.Parse(r.Out())
	if err != nil || len(l) != len(keys) {
		t.Fatalf("Load(%q): Out = %q", s, r.Out())
	}
	for i, p := range l {
		if p.Key != keys[i] {
			t.Fatalf("Load(%q): Out = %q", s, r.Out())
		}
	}
}

// E4: of other texts false is told, and then the run stands as it stood; or it stands somewhere.
func TestLoadOther(t *testing.T) {
	lists := [][]api.Pair{{{Key: "a", Val: 1}, {Key: "b", Val: 12}, {Key: "c", Val: 3}}}
	keys := []string{"a", "b", "c"}
	first := start(t, api.Sum, lists)
	first.Step(2)
	s := first.Save()
	texts := []string{"", "x", "0", "2", "-1", "\n", "1:a 1", "1:b 1\n", "1:c 3\n", "1:a 1\n1:a 1\n", "1:b 12\n1:a 1\n", "1:a 1\n1:b 12\n1:c 3\n1:d 4\n", "1:a 1\n1:b 12\n1:c 3\n1:c 3\n", "1:a 9223372036854775807\n", "1:a 9223372036854775808\n", s + s}
	for i := range len(s) {
		texts = append(texts, s[:i], s[i:], s[:i]+s[i+1:])
		for _, b := range []string{"0", "9", "-", " ", ":", "\n", "b"} {
			texts = append(texts, s[:i]+b+s[i:], s[:i]+b+s[i+1:])
		}
	}
	told := 0
	for _, x := range texts {
		r := start(t, api.Sum, lists)
		r.Load(s)
		if r.Load(x) {
			if r.Save() != x {
				t.Fatalf("Load(%q) = true, and Save is %q", x, r.Save())
			}
			stands(t, r, keys, x)
			continue
		}
		told++
		if r.Save() != s || r.Out() != first.Out() {
			t.Fatalf("Load(%q) = false, and it stands at %q", x, r.Out())
		}
	}
	if told == 0 {
		t.Error("no text is refused")
	}
}

// Texts that are made up on the way.
func FuzzLoad(f *testing.F) {
	for _, s := range []string{"", "1:a 1\n", "1:a 1\n1:b 2\n", "1:a 1\n1:b 2\n1:c 3\n", "1:c 3\n", "0: 1\n"} {
		f.Add(s)
	}
	lists := [][]api.Pair{{{Key: "a", Val: 1}, {Key: "b", Val: 2}, {Key: "c", Val: 3}}}
	f.Fuzz(func(t *testing.T, s string) {
		r := start(t, api.Sum, lists)
		if r.Load(s) && r.Save() != s {
			t.Fatalf("Load(%q): Save = %q", s, r.Save())
		}
		stands(t, r, []string{"a", "b", "c"}, s)
	})
}

// Z2: no list that is handed in is kept, or written into, nor what stands behind it read.
func TestLists(t *testing.T) {
	for _, many := range []int{1, 2} {
		whole := []api.Pair{{Key: "a", Val: 1}, {Key: "a", Val: 2}, {Key: "b", Val: 3}, {Key: "behind", Val: 4}}
		other := []api.Pair{{Key: "c", Val: 5}}
		kept := slices.Clone(whole)
		lists := [][]api.Pair{whole[:3], other}[:many]
		want := pair.Text(slowly(api.Sum, lists))
		r := start(t, api.Sum, lists)
		r.Step(1)
		if !slices.Equal(whole, kept) || &lists[0][0] != &whole[0] || other[0].Key != "c" {
			t.Fatalf("a list was written into: %v", whole)
		}
		clear(whole)
		clear(other)
		clear(lists)
		if !r.Step(9) || r.Out() != want {
			t.Errorf("Out = %q, want %q", r.Out(), want)
		}
	}
}

// Z1: lists that fall, of which nothing is said, and values as great as numbers are.
func TestEnds(t *testing.T) {
	for _, kind := range kinds {
		r := start(t, kind, [][]api.Pair{{{Key: "b", Val: math.MaxInt}, {Key: "a", Val: math.MinInt}, {Key: "b", Val: math.MaxInt}}, {{Key: "a", Val: math.MinInt}}})
		if !r.Step(9) || !r.Load(r.Save()) {
			t.Error("it isn't over")
		}
	}
}

// W5: values may be folded early, in any groups, and lists may stand in any order.
func TestEarly(t *testing.T) {
	d := die(5)
	for range 100 {
		lists := drawn(&d)
		for _, kind := range kinds {
			early := make([][]api.Pair, len(lists))
			for i, l := range lists {
				early[len(lists)-1-i] = fold.Groups(kind, l)
			}
			late, soon := start(t, kind, lists), start(t, kind, early)
			late.Step(99)
			soon.Step(99)
			if late.Out() != soon.Out() {
				t.Fatalf("kind %d: %q early, %q late", kind, soon.Out(), late.Out())
			}
		}
	}
}

// outputs of a job over records that are cut into parts of a size: mapped one by one, then folded slice by slice.
func outputs(t *testing.T, j api.Job, lines []string, size int) string {
	t.Helper()
	parts := make([][][]api.Pair, j.Slices)
	for part := range slices.Chunk(lines, size) {
		r, err := mapper.New(j, part)
		if err != nil || !r.Step(size) {
			t.Fatalf("mapper: New = %v", err)
		}
		for i, l := range r.Slices() {
			parts[i] = append(parts[i], l)
		}
	}
	out := ""
	for i := range parts {
		r := start(t, j.Fold, parts[i])
		r.Step(99)
		out += r.Out() + "|"
	}
	return out
}

// W1: the document's example comes out as it says, in parts of any size, early and not.
func TestWhole(t *testing.T) {
	lines, err := mapper.Records("the hay the oats\nhay\noats oats the\n")
	if err != nil {
		t.Fatal(err)
	}
	for _, head := range []string{"count 2\n", "count 2 early\n"} {
		j, err := job.Parse(head + "each other it \"the\" key it val num 1\n")
		if err != nil {
			t.Fatal(err)
		}
		for size := 1; size <= 4; size++ {
			if got := outputs(t, j, lines, size); got != "4:oats 3\n|3:hay 2\n|" {
				t.Errorf("%q in parts of %d: %q", head, size, got)
			}
		}
	}
}
