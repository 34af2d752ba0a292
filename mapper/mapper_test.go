package mapper_test

import (
	"math"
	"slices"
	"strings"
	"testing"

	"threshfloor/api"
	"threshfloor/fold"
	"threshfloor/job"
	"threshfloor/mapper"
	"threshfloor/pair"
)

// What jobs are made of here.
var (
	it   = api.Expr{Kind: api.It}
	line = api.Expr{Kind: api.Line}
	many = api.Expr{Kind: api.Many}
)

func word(n int) api.Expr            { return api.Expr{Kind: api.Word, N: n} }
func text(s string) api.Expr         { return api.Expr{Kind: api.Text, S: s} }
func cat(a, b api.Expr) api.Expr     { return api.Expr{Kind: api.Cat, A: []api.Expr{a, b}} }
func cut(n int, a api.Expr) api.Expr { return api.Expr{Kind: api.Cut, N: n, A: []api.Expr{a}} }
func num(n int) api.Expr             { return api.Expr{Kind: api.Num, N: n} }
func length(a api.Expr) api.Expr     { return api.Expr{Kind: api.Len, A: []api.Expr{a}} }
func add(a, b api.Expr) api.Expr     { return api.Expr{Kind: api.Add, A: []api.Expr{a, b}} }

// sums: a job of these rules, in one slice.
func sums(l ...api.Rule) api.Job { return api.Job{Rules: l, Fold: api.Sum, Slices: 1} }

// parse a job's text that is one.
func parse(t *testing.T, s string) api.Job {
	t.Helper()
	j, err := job.Parse(s)
	if err != nil {
		t.Fatalf("Parse(%q) = %v", s, err)
	}
	return j
}

// start a run that may be.
func start(t *testing.T, j api.Job, lines []string) *mapper.Run {
	t.Helper()
	r, err := mapper.New(j, lines)
	if err != nil || r == nil {
		t.Fatalf("New = %v, %v", r, err)
	}
	return r
}

// sameLists: are the pairs of lists? One without pairs may be nil or not.
func sameLists(a, b [][]api.Pair) bool {
	return slices.EqualFunc(a, b, func(x, y []api.Pair) bool { return slices.Equal(x, y) })
}

// E1: the lines of an input, and what is none.
func TestRecords(t *testing.T) {
	long := strings.Repeat("r", api.MaxRecord)
	for _, c := range []struct {
		name, s string
		want    []string
		err     error
	}{
		{"no bytes", "", nil, nil},
		{"one", "a\n", []string{"a"}, nil},
		{"two", "a b\nc\n", []string{"a b", "c"}, nil},
		{"one without bytes", "\n", []string{""}, nil},
		{"three without bytes", "\n\n\n", []string{"", "", ""}, nil},
		{"without bytes in between", "a\n\nb\n\n", []string{"a", "", "b", ""}, nil},
		{"blanks stay", "  a  \n \n", []string{"  a  ", " "}, nil},
		{"other bytes", "\r\n\x00\xff\t\n", []string{"\r", "\x00\xff\t"}, nil},
		{"longest", long + "\n", []string{long}, nil},
		{"most", strings.Repeat("x\n", api.MaxRecords), slices.Repeat([]string{"x"}, api.MaxRecords), nil},
		{"most, without bytes", strings.Repeat("\n", api.MaxRecords), make([]string, api.MaxRecords), nil},
		{"no end", "a", nil, api.ErrText},
		{"no end at last", "a\nb", nil, api.ErrText},
		{"another end", "a\r", nil, api.ErrText},
		{"a blank behind", "a\n ", nil, api.ErrText},
		{"too many", strings.Repeat("x\n", api.MaxRecords+1), nil, api.ErrMany},
		{"too many without bytes", strings.Repeat("\n", api.MaxRecords+1), nil, api.ErrMany},
		{"too long", long + "r\n", nil, api.ErrBound},
		{"too long by bytes", strings.Repeat("\u00e9", api.MaxRecord/2) + "r\n", nil, api.ErrBound},
		{"too long at last", "a\n" + long + "r\n", nil, api.ErrBound},
		{"the end ahead of how many", strings.Repeat("x\n", api.MaxRecords+1) + "x", nil, api.ErrText},
		{"the end ahead of how long", long + "r", nil, api.ErrText},
		{"how many ahead of how long", long + "r\n" + strings.Repeat("\n", api.MaxRecords), nil, api.ErrMany},
	} {
		got, err := mapper.Records(c.s)
		if !slices.Equal(got, c.want) || err != c.err {
			t.Errorf("%s: Records = %q, %v, want %q, %v", c.name, got, err, c.want, c.err)
		}
	}
}

// Z2: no two answers share memory.
func TestRecordsAreFresh(t *testing.T) {
	one, _ := mapper.Records("a\nb\n")
	one[0] = "z"
	if two, _ := mapper.Records("a\nb\n"); two[0] != "a" {
		t.Error("two answers share memory")
	}
}

type made struct {
	name string
	j    api.Job
	line string
	want []api.Pair
}

func pairsAre(t *testing.T, l []made) {
	t.Helper()
	for _, c := range l {
		if err := job.Check(c.j); err != nil {
			t.Fatalf("%s: Check = %v", c.name, err)
		}
		if got := mapper.Pairs(c.j, c.line); !slices.Equal(got, c.want) {
			t.Errorf("%s: Pairs(%q) = %v, want %v", c.name, c.line, got, c.want)
		}
	}
}

// E2: of the record, or of each of its words; each When.
func TestPairs(t *testing.T) {
	pairsAre(t, []made{
		{"of the record", sums(api.Rule{Key: line, Val: many}), "the hay", []api.Pair{{Key: "the hay", Val: 2}}},
		{"of a record without bytes", sums(api.Rule{Key: line, Val: many}), "", []api.Pair{{}}},
		{"of a record of blanks", sums(api.Rule{Key: word(0), Val: length(line)}), "  ", []api.Pair{{Val: 2}}},
		{"of each word", sums(api.Rule{Each: true, Key: it, Val: length(it)}), " oats  hay oats ", []api.Pair{{Key: "oats", Val: 4}, {Key: "hay", Val: 3}, {Key: "oats", Val: 4}}},
		{"of each of no words", sums(api.Rule{Each: true, Key: line, Val: num(1)}), "", nil},
		{"of each of no words, but blanks", sums(api.Rule{Each: true, Key: line, Val: num(1)}), "   ", nil},
		{"of each word the record", sums(api.Rule{Each: true, Key: cat(it, line), Val: many}), "a b", []api.Pair{{Key: "aa b", Val: 2}, {Key: "ba b", Val: 2}}},
		{"same", sums(api.Rule{When: api.Same, If: word(0), S: "the", Key: line, Val: many}), "the hay", []api.Pair{{Key: "the hay", Val: 2}}},
		{"same, and it isn't", sums(api.Rule{When: api.Same, If: word(0), S: "the", Key: line, Val: many}), "hay", nil},
		{"same, and it begins so", sums(api.Rule{When: api.Same, If: word(0), S: "the", Key: line, Val: many}), "then", nil},
		{"same, and it is longer", sums(api.Rule{When: api.Same, If: word(0), S: "the", Key: line, Val: many}), "th", nil},
		{"same as nothing", sums(api.Rule{When: api.Same, If: word(1), S: "", Key: line, Val: many}), "hay", []api.Pair{{Key: "hay", Val: 1}}},
		{"other", sums(api.Rule{When: api.Other, If: word(0), S: "the", Key: line, Val: many}), "hay", []api.Pair{{Key: "hay", Val: 1}}},
		{"other, and it is the same", sums(api.Rule{When: api.Other, If: word(0), S: "the", Key: line, Val: many}), "the hay", nil},
		{"other, and it begins so", sums(api.Rule{When: api.Other, If: word(0), S: "the", Key: line, Val: many}), "then", []api.Pair{{Key: "then", Val: 1}}},
		{"other, and it is longer", sums(api.Rule{When: api.Other, If: word(0), S: "the", Key: line, Val: many}), "th", []api.Pair{{Key: "th", Val: 1}}},
		{"other than nothing", sums(api.Rule{When: api.Other, If: word(1), S: "", Key: line, Val: many}), "hay", nil},
		{"same of each word", sums(api.Rule{Each: true, When: api.Same, If: cut(1, it), S: "h", Key: it, Val: num(-7)}), "the hay he oats", []api.Pair{{Key: "hay", Val: -7}, {Key: "he", Val: -7}}},
		{"other of each word", sums(api.Rule{Each: true, When: api.Other, If: it, S: "the", Key: it, Val: num(1)}), "the hay the oats", []api.Pair{{Key: "hay", Val: 1}, {Key: "oats", Val: 1}}},
		{"if of the record, of each word", sums(api.Rule{Each: true, When: api.Same, If: word(0), S: "a", Key: it, Val: num(1)}), "a b", []api.Pair{{Key: "a", Val: 1}, {Key: "b", Val: 1}}},
	})
}

// E2: rules one behind the other, all words of one ahead of the next one's.
func TestPairsOfRules(t *testing.T) {
	each := api.Rule{Each: true, Key: it, Val: length(it)}
	whole := api.Rule{Key: text("all"), Val: many}
	never := api.Rule{When: api.Same, If: text("a"), S: "b", Key: line, Val: many}
	pairsAre(t, []made{
		{"each, then all", sums(each, whole), "b a", []api.Pair{{Key: "b", Val: 1}, {Key: "a", Val: 1}, {Key: "all", Val: 2}}},
		{"all, then each", sums(whole, each), "b a", []api.Pair{{Key: "all", Val: 2}, {Key: "b", Val: 1}, {Key: "a", Val: 1}}},
		{"never in between", sums(whole, never, whole), "b a", []api.Pair{{Key: "all", Val: 2}, {Key: "all", Val: 2}}},
		{"most rules", sums(each, never, each, whole), "cc", []api.Pair{{Key: "cc", Val: 2}, {Key: "cc", Val: 2}, {Key: "all", Val: 1}}},
		{"never", sums(never), "b a", nil},
	})
}

// E2: the first MaxKey bytes of a key, or all of them.
func TestPairsKeys(t *testing.T) {
	j := sums(api.Rule{Key: line, Val: length(line)})
	nineteen := strings.Repeat("k", api.MaxKey-1)
	pairsAre(t, []made{
		{"shorter", j, nineteen, []api.Pair{{Key: nineteen, Val: 19}}},
		{"as long", j, nineteen + "x", []api.Pair{{Key: nineteen + "x", Val: 20}}},
		{"longer", j, nineteen + "xy", []api.Pair{{Key: nineteen + "x", Val: 21}}},
		{"in a rune", j, nineteen + "\u00e9", []api.Pair{{Key: nineteen + "\xc3", Val: 21}}},
		{"longest record", j, strings.Repeat("a b ", 30), []api.Pair{{Key: strings.Repeat("a b ", 5), Val: 120}}},
		{"other bytes", j, "\x00\xff\t", []api.Pair{{Key: "\x00\xff\t", Val: 3}}},
		{"longer still", j, strings.Repeat("z", 1000), []api.Pair{{Key: strings.Repeat("z", 20), Val: 1000}}},
	})
	long := sums(api.Rule{When: api.Same, If: cut(21, line), S: "", Key: line, Val: num(1)})
	pairsAre(t, []made{{"If isn't cut", long, nineteen + "xy", nil}})
}

// E2: First of the value: of Count 1, whatever it is.
func TestPairsValues(t *testing.T) {
	for _, kind := range []int{api.Sum, api.Least, api.Greatest, api.Count} {
		for _, val := range []api.Expr{num(0), num(-1000), num(1000), add(num(5), many)} {
			j := api.Job{Rules: []api.Rule{{Key: line, Val: val}}, Fold: kind, Slices: 1}
			v := val.N
			if val.Kind == api.Add {
				v = 7
			}
			pairsAre(t, []made{{"value", j, "a b", []api.Pair{{Key: "a b", Val: fold.First(kind, v)}}}})
		}
	}
	count := api.Job{Rules: []api.Rule{{Each: true, Key: it, Val: num(9)}}, Fold: api.Count, Slices: 1}
	pairsAre(t, []made{{"count", count, "a a", []api.Pair{{Key: "a", Val: 1}, {Key: "a", Val: 1}}}})
}

// wrong jobs: each of them may not be.
func wrong() []api.Job {
	self := make([]api.Expr, 1)
	self[0] = api.Expr{Kind: api.Cut, N: 1, A: self}
	good := api.Rule{Key: line, Val: many}
	return []api.Job{
		{},
		sums(),
		sums(good, good, good, good, good),
		{Rules: []api.Rule{good}, Fold: 5, Slices: 1},
		{Rules: []api.Rule{good}, Fold: 1, Slices: 0},
		{Rules: []api.Rule{good}, Fold: 1, Slices: math.MaxInt},
		{Rules: []api.Rule{good}, Fold: 1, Slices: math.MinInt},
		sums(api.Rule{When: 3, Key: line, Val: many}),
		sums(api.Rule{Key: it, Val: many}),
		sums(good, api.Rule{Key: many, Val: many}),
		sums(api.Rule{Key: self[0], Val: many}),
		sums(api.Rule{If: self[0], Key: line, Val: many}),
	}
}

// Z1: jobs that may not be make no pairs, and end.
func TestPairsOfWrongJobs(t *testing.T) {
	for i, j := range wrong() {
		if got := mapper.Pairs(j, "the hay"); len(got) != 0 {
			t.Errorf("Pairs of job %d = %v, want none", i, got)
		}
	}
}

// E3: what New refuses, and which of several errors is told.
func TestNewErrors(t *testing.T) {
	most := make([]string, api.MaxRecords)
	more := make([]string, api.MaxRecords+1)
	for _, j := range wrong() {
		for _, l := range [][]string{nil, most, more} {
			if r, err := mapper.New(j, l); r != nil || err == nil || err != job.Check(j) {
				t.Errorf("New of %d records = %v, %v, want %v", len(l), r, err, job.Check(j))
			}
		}
	}
	j := sums(api.Rule{Key: line, Val: many})
	if r, err := mapper.New(j, more); r != nil || err != api.ErrMany {
		t.Errorf("New of too many = %v, %v, want %v", r, err, api.ErrMany)
	}
	if r := start(t, j, most); !r.Step(api.MaxRecords) || r.At() != api.MaxRecords {
		t.Errorf("the most records: at %d", r.At())
	}
}

// E3: records of any bytes, and a job whose text would have too many.
func TestNewTakes(t *testing.T) {
	lines := []string{strings.Repeat("z", 500), "a\nb", "\n", ""}
	r := start(t, sums(api.Rule{Key: line, Val: length(line)}), lines)
	r.Step(9)
	want := [][]api.Pair{{{Key: "", Val: 0}, {Key: "\n", Val: 1}, {Key: "a\nb", Val: 3}, {Key: strings.Repeat("z", 20), Val: 500}}}
	if got := r.Slices(); !sameLists(got, want) {
		t.Errorf("Slices = %v, want %v", got, want)
	}
	key := text(strings.Repeat("\\", api.MaxText))
	for range 4 {
		key = cat(key, key)
	}
	big := api.Rule{Key: cut(3, key.A[0]), Val: num(1)}
	j := sums(big, big, big)
	if _, err := job.Text(j); err != api.ErrMany {
		t.Fatalf("Text = %v, want %v", err, api.ErrMany)
	}
	r = start(t, j, []string{"a"})
	r.Step(1)
	b := api.Pair{Key: `\\\`, Val: 1}
	if got := r.Slices(); !sameLists(got, [][]api.Pair{{b, b, b}}) {
		t.Errorf("Slices = %v", got)
	}
}

// E3: how far each Step goes, and whether all are done.
func TestStep(t *testing.T) {
	for _, c := range []struct {
		records int
		steps   []int
		at      []int
	}{
		{0, []int{0, 1, -1, math.MaxInt}, []int{0, 0, 0, 0}},
		{1, []int{0, -1, 1, 1, -1, 0}, []int{0, 0, 1, 1, 1, 1}},
		{3, []int{1, 1, 1, 1}, []int{1, 2, 3, 3}},
		{3, []int{2, 2}, []int{2, 3}},
		{3, []int{math.MinInt, math.MaxInt, math.MinInt}, []int{0, 3, 3}},
		{3, []int{1, math.MaxInt, math.MaxInt}, []int{1, 3, 3}},
		{3, []int{2, -1, 0, -2, 1}, []int{2, 2, 2, 2, 3}},
		{60, []int{59, 1}, []int{59, 60}},
	} {
		r := start(t, sums(api.Rule{Key: line, Val: many}), slices.Repeat([]string{"a"}, c.records))
		if r.At() != 0 {
			t.Errorf("a new run is at %d", r.At())
		}
		for i, s := range c.steps {
			if over := r.Step(s); over != (c.at[i] == c.records) || r.At() != c.at[i] {
				t.Errorf("%d records: Step(%d) = %t, at %d, want %d", c.records, s, over, r.At(), c.at[i])
			}
			if got := r.Slices(); len(got[0]) != c.at[i] {
				t.Errorf("%d records, at %d: pairs %v", c.records, c.at[i], got)
			}
		}
	}
}

// E3: the document's example, record by record, early and not.
func TestSlices(t *testing.T) {
	lines := []string{"the hay the oats", "hay", "oats oats the"}
	one := func(key string) api.Pair { return api.Pair{Key: key, Val: 1} }
	late := [][][]api.Pair{
		{nil, nil},
		{{one("oats")}, {one("hay")}},
		{{one("oats")}, {one("hay"), one("hay")}},
		{{one("oats"), one("oats"), one("oats")}, {one("hay"), one("hay")}},
	}
	early := [][][]api.Pair{
		{nil, nil},
		{{one("oats")}, {one("hay")}},
		{{one("oats")}, {{Key: "hay", Val: 2}}},
		{{{Key: "oats", Val: 3}}, {{Key: "hay", Val: 2}}},
	}
	for head, want := range map[string][][][]api.Pair{"count 2\n": late, "count 2 early\n": early} {
		r := start(t, parse(t, head+"each other it \"the\" key it val num 1\n"), lines)
		for at, w := range want {
			for range 2 { // asking changes nothing
				if got := r.Slices(); r.At() != at || !sameLists(got, w) {
					t.Errorf("%q at %d: Slices = %v, want %v", head, r.At(), got, w)
				}
			}
			r.Step(1)
		}
	}
}

// E3: as many lists as slices, also without pairs; pairs of one key as they were made; each key in its slice.
func TestSlicesOrder(t *testing.T) {
	lines := []string{"b a c", "", "a b a", "d \xff a\x00 B", "c"}
	for n := 1; n <= api.MaxSlices; n++ {
		j := api.Job{Rules: []api.Rule{{Each: true, Key: it, Val: length(line)}, {Each: true, Key: it, Val: num(-1)}}, Fold: api.Sum, Slices: n}
		r := start(t, j, lines)
		if got := r.Slices(); !sameLists(got, make([][]api.Pair, n)) {
			t.Errorf("Slices of none = %v, want %d empty ones", got, n)
		}
		r.Step(5)
		got := r.Slices()
		if len(got) != n {
			t.Fatalf("%d lists, want %d", len(got), n)
		}
		want := make([][]api.Pair, n)
		for _, p := range []api.Pair{{Key: "B", Val: 8}, {Key: "B", Val: -1}, {Key: "a", Val: 5}, {Key: "a", Val: -1}, {Key: "a", Val: 5}, {Key: "a", Val: 5}, {Key: "a", Val: -1}, {Key: "a", Val: -1},
			{Key: "a\x00", Val: 8}, {Key: "a\x00", Val: -1}, {Key: "b", Val: 5}, {Key: "b", Val: -1}, {Key: "b", Val: 5}, {Key: "b", Val: -1}, {Key: "c", Val: 5}, {Key: "c", Val: -1}, {Key: "c", Val: 1}, {Key: "c", Val: -1},
			{Key: "d", Val: 8}, {Key: "d", Val: -1}, {Key: "\xff", Val: 8}, {Key: "\xff", Val: -1}} {
			i := pair.Slice(p.Key, n)
			want[i] = append(want[i], p)
		}
		if !sameLists(got, want) {
			t.Errorf("%d slices: %v, want %v", n, got, want)
		}
	}
}

// E3: folded early, by each kind.
func TestSlicesEarly(t *testing.T) {
	for kind, want := range map[int]api.Pair{api.Sum: {Key: "k", Val: 6}, api.Least: {Key: "k", Val: 1}, api.Greatest: {Key: "k", Val: 3}, api.Count: {Key: "k", Val: 3}} {
		j := api.Job{Rules: []api.Rule{{Key: text("k"), Val: many}}, Fold: kind, Early: true, Slices: 1}
		r := start(t, j, []string{"a b", "a b c", "a"})
		r.Step(3)
		if got := r.Slices(); !sameLists(got, [][]api.Pair{{want}}) {
			t.Errorf("kind %d: %v, want %v", kind, got, want)
		}
	}
}

// die: numbers that look drawn, the same each time.
type die uint64

func (d *die) n(most int) int {
	*d = *d*6364136223846793005 + 1442695040888963407
	return int(uint64(*d>>33) % uint64(most))
}

// jobs of which runs are made here.
func jobs() []api.Job {
	var l []api.Job
	for i := range 32 {
		each := api.Rule{Each: true, When: i % 3, Key: it, Val: add(length(it), many)}
		if each.When != api.Always {
			each.If, each.S = it, "a"
		}
		l = append(l, api.Job{Rules: []api.Rule{each, {Key: cat(line, text(" 1:")), Val: num(i - 9)}}, Fold: 1 + i%4, Early: i%8 > 3, Slices: 1 + i/8})
	}
	return l
}

// linesOf some words.
func linesOf(d *die) []string {
	var l []string
	for range d.n(12) {
		s := ""
		for range d.n(6) {
			s += []string{"a", "b", "hay", "\xff", "1:x", " ", "x\ny", "longerthantwentybytesis"}[d.n(8)] + " "
		}
		l = append(l, s)
	}
	return l
}

// alone: where a run stands that goes there at once.
func alone(t *testing.T, j api.Job, lines []string, at int) [][]api.Pair {
	t.Helper()
	r := start(t, j, lines)
	r.Step(at)
	return r.Slices()
}

// E3, W3: in whichever steps a run goes, and wherever it is saved, and loaded by a run that stands elsewhere, it is the same.
func TestSaved(t *testing.T) {
	d := die(7)
	for _, j := range jobs() {
		lines := linesOf(&d)
		r := start(t, j, lines)
		for over := false; !over; {
			over = r.Step(d.n(4) - 1)
			if got, want := r.Slices(), alone(t, j, lines, r.At()); !sameLists(got, want) {
				t.Fatalf("at %d: %v, want %v", r.At(), got, want)
			}
			other := start(t, j, lines)
			other.Step(d.n(14))
			s := r.Save()
			if s != r.Save() || !other.Load(s) || other.At() != r.At() || other.Save() != s || !sameLists(other.Slices(), r.Slices()) {
				t.Fatalf("Load(%q): at %d, %v, want %d, %v", s, other.At(), other.Slices(), r.At(), r.Slices())
			}
			if got := other.Step(0); got != over {
				t.Fatalf("Load(%q): Step(0) = %t, want %t", s, got, over)
			}
			if d.n(2) == 0 {
				r = other
			}
		}
		if r.At() != len(lines) {
			t.Fatalf("all are done, at %d of %d", r.At(), len(lines))
		}
	}
}

// E3: what was saved stays as it is, while the run goes on; a run may be put back by it.
func TestSavedStays(t *testing.T) {
	lines := []string{"b a", "c", "a"}
	j := sums(api.Rule{Each: true, Key: it, Val: many})
	r := start(t, j, lines)
	r.Step(1)
	s := r.Save()
	for range 3 {
		if r.Step(9); r.At() != 3 || !sameLists(r.Slices(), alone(t, j, lines, 3)) {
			t.Fatalf("at %d: %v", r.At(), r.Slices())
		}
		if !r.Load(s) || r.At() != 1 || !sameLists(r.Slices(), alone(t, j, lines, 1)) {
			t.Fatalf("back at %d: %v", r.At(), r.Slices())
		}
	}
}

// W3: a record that was saved is not done again: of what was saved the pairs are taken, not made.
func TestSavedIsNotDoneAgain(t *testing.T) {
	j := sums(api.Rule{Key: line, Val: many})
	r := start(t, j, []string{"a", "b"})
	r.Step(1)
	other := start(t, j, []string{"z", "b"})
	if !other.Load(r.Save()) || !other.Step(1) {
		t.Fatal("a run that was saved isn't taken")
	}
	if got, want := other.Slices(), alone(t, j, []string{"a", "b"}, 2); !sameLists(got, want) {
		t.Errorf("Slices = %v, want %v", got, want)
	}
}

// stands: a run stands somewhere: its records go up to their end from there.
func stands(t *testing.T, r *mapper.Run, records int, s string) {
	t.Helper()
	if r.At() < 0 || r.At() > records || len(r.Slices()) != 2 {
		t.Fatalf("Load(%q): at %d of %d", s, r.At(), records)
	}
	if !r.Step(records) || r.At() != records {
		t.Fatalf("Load(%q): all is done at %d of %d", s, r.At(), records)
	}
}

// E3: of other texts false is told, and then the run stands as it stood; or it stands somewhere.
func TestLoadOther(t *testing.T) {
	lines := []string{"b a", "c", "a"}
	j := api.Job{Rules: []api.Rule{{Each: true, Key: it, Val: many}}, Fold: api.Count, Slices: 2}
	r := start(t, j, lines)
	r.Step(2)
	s := r.Save()
	texts := []string{"", "x", "0", "2", "-1", "4", "\n", "0: 4\n", "0: -1\n", "0: 9223372036854775807\n", "0: -9223372036854775808\n", "0: 9999999999999999999\n", "1:a 1\n", "0: 1", "0:1\n", "0: 01\n", s + s, s + "0"}
	for i := range len(s) {
		texts = append(texts, s[:i], s[i:], s[:i]+s[i+1:])
		for _, b := range []string{"0", "9", "-", " ", ":", "\n"} {
			texts = append(texts, s[:i]+b+s[i:], s[:i]+b+s[i+1:])
		}
	}
	told := 0
	for _, x := range texts {
		other := start(t, j, lines)
		other.Load(s)
		if other.Load(x) {
			if other.Save() != x {
				t.Fatalf("Load(%q) = true, and Save is %q", x, other.Save())
			}
			stands(t, other, len(lines), x)
			continue
		}
		told++
		if other.At() != 2 || other.Save() != s {
			t.Fatalf("Load(%q) = false, and it stands at %d: %q", x, other.At(), other.Save())
		}
	}
	if told == 0 {
		t.Error("no text is refused")
	}
}

// Texts that are made up on the way.
func FuzzLoad(f *testing.F) {
	for _, s := range []string{"", "0: 0\n", "0: 1\n1:b 1\n1:a 1\n", "0: 3\n", "0: 4\n", "0: -1\n", "5:\x00\xff\n: 7\n"} {
		f.Add(s)
	}
	lines := []string{"b a", "c", "a"}
	f.Fuzz(func(t *testing.T, s string) {
		for _, early := range []bool{false, true} {
			r := start(t, api.Job{Rules: []api.Rule{{Each: true, Key: it, Val: many}}, Fold: api.Sum, Early: early, Slices: 2}, lines)
			if r.Load(s) && r.Save() != s {
				t.Fatalf("Load(%q): Save = %q", s, r.Save())
			}
			stands(t, r, len(lines), s)
		}
	})
}

// Z2: no list that is handed in is kept: a job's, nor those in it, nor the records.
func TestNewKeepsNoList(t *testing.T) {
	build := func() (api.Job, []string) {
		rule := api.Rule{Each: true, When: api.Other, If: cat(it, text("x")), S: "ax", Key: cat(cut(2, it), word(0)), Val: add(length(it), num(1))}
		return sums(rule), []string{"b a cc", "a d"}
	}
	j, lines := build()
	want := alone(t, j, lines, 2)
	r := start(t, j, lines)
	r.Step(1)
	rule := &j.Rules[0]
	for _, a := range [][]api.Expr{rule.Key.A[0].A, rule.If.A, rule.Key.A, rule.Val.A[0].A, rule.Val.A} {
		clear(a)
	}
	clear(j.Rules)
	clear(lines)
	r.Step(1)
	if got := r.Slices(); !sameLists(got, want) {
		t.Errorf("Slices = %v, want %v", got, want)
	}
}

// Z2: no list that is handed in is written into, nor what stands behind it read.
func TestNewLeavesLists(t *testing.T) {
	whole := []string{"b a", "c", "behind"}
	args := []api.Expr{it, line, {Kind: 99}}
	rules := []api.Rule{{Each: true, Key: api.Expr{Kind: api.Cat, A: args[:2]}, Val: many}, {When: 99}}
	j := sums(rules[:1]...)
	r := start(t, j, whole[:2])
	if !r.Step(2) {
		t.Error("it reads behind the records")
	}
	want := [][]api.Pair{{{Key: "ab a", Val: 2}, {Key: "bb a", Val: 2}, {Key: "cc", Val: 1}}}
	if got := r.Slices(); !sameLists(got, want) {
		t.Errorf("Slices = %v, want %v", got, want)
	}
	if !slices.Equal(mapper.Pairs(j, "c"), want[0][2:]) {
		t.Error("Pairs reads behind a list")
	}
	if !slices.Equal(whole, []string{"b a", "c", "behind"}) || args[0].Kind != api.It || args[1].Kind != api.Line || args[2].Kind != 99 || rules[1].When != 99 {
		t.Error("a list was written into")
	}
}

// Z2: what comes out is the caller's: no list shares memory with another one, nor with the run.
func TestSlicesAreFresh(t *testing.T) {
	for _, early := range []bool{false, true} {
		j := api.Job{Rules: []api.Rule{{Each: true, Key: it, Val: many}}, Fold: api.Sum, Early: early, Slices: 4}
		r := start(t, j, []string{"a b c d e f g", "a c e"})
		r.Step(2)
		want := alone(t, j, []string{"a b c d e f g", "a c e"}, 2)
		got := r.Slices()
		for i := range got {
			_ = append(got[i], api.Pair{Key: "z"}, api.Pair{Key: "z"})
		}
		if !sameLists(got, want) {
			t.Errorf("two lists share memory: %v, want %v", got, want)
		}
		for i := range got {
			clear(got[i])
		}
		if again := r.Slices(); !sameLists(again, want) {
			t.Errorf("the run shares memory with its answer: %v, want %v", again, want)
		}
	}
}

// Z2: runs have nothing in common.
func TestRunsApart(t *testing.T) {
	j, lines := sums(api.Rule{Key: line, Val: many}), []string{"a", "b"}
	one, two := start(t, j, lines), start(t, j, lines)
	one.Step(2)
	if two.At() != 0 || len(two.Slices()[0]) != 0 {
		t.Errorf("another run went on: at %d", two.At())
	}
}

// W5: pairs of an input are those of its parts, however it is cut; each key is in just one slice.
func TestParts(t *testing.T) {
	d := die(9)
	for _, j := range jobs() {
		lines := linesOf(&d)
		whole := alone(t, j, lines, len(lines))
		for size := 1; size <= len(lines); size++ {
			parts := make([][]api.Pair, j.Slices)
			for part := range slices.Chunk(lines, size) {
				for i, l := range alone(t, j, part, size) {
					parts[i] = append(parts[i], l...)
				}
			}
			for i := range parts {
				if j.Early {
					parts[i] = fold.Groups(j.Fold, sorted(parts[i]))
				}
				if !slices.Equal(sorted(parts[i]), whole[i]) {
					t.Fatalf("parts of %d: slice %d: %v, want %v", size, i, parts[i], whole[i])
				}
			}
		}
		for i, l := range whole {
			for _, p := range l {
				if pair.Slice(p.Key, j.Slices) != i || pair.Check(p) != nil {
					t.Fatalf("%v is in slice %d", p, i)
				}
			}
		}
	}
}

// sorted by keys, those of one key in their order.
func sorted(l []api.Pair) []api.Pair {
	return slices.SortedStableFunc(slices.Values(l), func(a, b api.Pair) int { return strings.Compare(a.Key, b.Key) })
}
