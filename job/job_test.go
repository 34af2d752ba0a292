package job_test

import (
	"math"
	"math/rand/v2"
	"reflect"
	"strings"
	"testing"

	"threshfloor/api"
	"threshfloor/job"
)

// What jobs are made of here.
var (
	it   = api.Expr{Kind: api.It}
	line = api.Expr{Kind: api.Line}
	many = api.Expr{Kind: api.Many}
)

func word(n int) api.Expr               { return api.Expr{Kind: api.Word, N: n} }
func text(s string) api.Expr            { return api.Expr{Kind: api.Text, S: s} }
func cat(a, b api.Expr) api.Expr        { return api.Expr{Kind: api.Cat, A: []api.Expr{a, b}} }
func cut(n int, a api.Expr) api.Expr    { return api.Expr{Kind: api.Cut, N: n, A: []api.Expr{a}} }
func num(n int) api.Expr                { return api.Expr{Kind: api.Num, N: n} }
func length(a api.Expr) api.Expr        { return api.Expr{Kind: api.Len, A: []api.Expr{a}} }
func add(a, b api.Expr) api.Expr        { return api.Expr{Kind: api.Add, A: []api.Expr{a, b}} }
func rules(l ...api.Rule) api.Job       { return api.Job{Rules: l, Fold: api.Sum, Slices: 1} }
func always(key, val api.Expr) api.Rule { return api.Rule{Key: key, Val: val} }

// deep: a text of so many expressions, each but the last one with the next one in it.
func deep(levels int) api.Expr {
	e := line
	for range levels - 1 {
		e = cut(9, e)
	}
	return e
}

// self: an expression whose list holds itself.
func self(kind int) api.Expr {
	a := make([]api.Expr, 1)
	a[0] = api.Expr{Kind: kind, A: a}
	return a[0]
}

// C1: what holds for all rules: bounds, and which of several errors is told.
func TestCheckHead(t *testing.T) {
	good, bad := always(line, many), always(many, many)
	for _, c := range []struct {
		name string
		j    api.Job
		want error
	}{
		{"sum", api.Job{Rules: []api.Rule{good}, Fold: api.Sum, Slices: 1}, nil},
		{"least", api.Job{Rules: []api.Rule{good}, Fold: api.Least, Slices: 2}, nil},
		{"greatest", api.Job{Rules: []api.Rule{good}, Fold: api.Greatest, Slices: 3, Early: true}, nil},
		{"count", api.Job{Rules: []api.Rule{good}, Fold: api.Count, Slices: api.MaxSlices}, nil},
		{"most rules", api.Job{Rules: []api.Rule{good, good, good, good}, Fold: 1, Slices: 1}, nil},
		{"too many rules", api.Job{Rules: []api.Rule{good, good, good, good, good}, Fold: 1, Slices: 1}, api.ErrMany},
		{"no rules", api.Job{Fold: 1, Slices: 1}, api.ErrMany},
		{"an empty list of rules", api.Job{Rules: []api.Rule{}, Fold: 1, Slices: 1}, api.ErrMany},
		{"nothing", api.Job{}, api.ErrMany},
		{"no fold", api.Job{Rules: []api.Rule{good}, Slices: 1}, api.ErrShape},
		{"fold 5", api.Job{Rules: []api.Rule{good}, Fold: 5, Slices: 1}, api.ErrShape},
		{"fold below 0", api.Job{Rules: []api.Rule{good}, Fold: -1, Slices: 1}, api.ErrShape},
		{"greatest fold of all", api.Job{Rules: []api.Rule{good}, Fold: math.MaxInt, Slices: 1}, api.ErrShape},
		{"no slices", api.Job{Rules: []api.Rule{good}, Fold: 1}, api.ErrBound},
		{"too many slices", api.Job{Rules: []api.Rule{good}, Fold: 1, Slices: api.MaxSlices + 1}, api.ErrBound},
		{"slices below 0", api.Job{Rules: []api.Rule{good}, Fold: 1, Slices: -1}, api.ErrBound},
		{"rules ahead of the fold", api.Job{Fold: 9}, api.ErrMany},
		{"the fold ahead of slices", api.Job{Rules: []api.Rule{good}}, api.ErrShape},
		{"slices ahead of a rule", api.Job{Rules: []api.Rule{bad}, Fold: 1}, api.ErrBound},
		{"the last rule", api.Job{Rules: []api.Rule{good, good, good, bad}, Fold: 1, Slices: 1}, api.ErrShape},
	} {
		if got := job.Check(c.j); got != c.want {
			t.Errorf("%s: Check = %v, want %v", c.name, got, c.want)
		}
	}
}

// C1: each When, Key and Val, and words only of rules that look at each.
func TestCheckRule(t *testing.T) {
	long := strings.Repeat("s", api.MaxText)
	for _, c := range []struct {
		name string
		r    api.Rule
		want error
	}{
		{"always", api.Rule{Key: line, Val: many}, nil},
		{"always, If without a list", api.Rule{If: api.Expr{A: []api.Expr{}}, Key: line, Val: many}, nil},
		{"always, If's kind", api.Rule{If: line, Key: line, Val: many}, api.ErrShape},
		{"always, If's N", api.Rule{If: api.Expr{N: 1}, Key: line, Val: many}, api.ErrShape},
		{"always, If's S", api.Rule{If: api.Expr{S: "s"}, Key: line, Val: many}, api.ErrShape},
		{"always, If's A", api.Rule{If: api.Expr{A: []api.Expr{{}}}, Key: line, Val: many}, api.ErrShape},
		{"always, If too deep", api.Rule{If: deep(9), Key: line, Val: many}, api.ErrShape},
		{"always, S", api.Rule{S: "s", Key: line, Val: many}, api.ErrShape},
		{"same", api.Rule{When: api.Same, If: line, S: "s", Key: line, Val: many}, nil},
		{"other", api.Rule{When: api.Other, If: line, S: "", Key: line, Val: many}, nil},
		{"longest S", api.Rule{When: api.Same, If: line, S: long, Key: line, Val: many}, nil},
		{"same, S too long", api.Rule{When: api.Same, If: line, S: long + "s", Key: line, Val: many}, api.ErrShape},
		{"other, S too long", api.Rule{When: api.Other, If: line, S: long + "s", Key: line, Val: many}, api.ErrShape},
		{"S with an end of a line", api.Rule{When: api.Same, If: line, S: "a\n", Key: line, Val: many}, api.ErrShape},
		{"S ahead of If", api.Rule{When: api.Other, If: deep(9), S: "\n", Key: line, Val: many}, api.ErrShape},
		{"If too deep", api.Rule{When: api.Other, If: deep(9), S: "s", Key: line, Val: many}, api.ErrMany},
		{"If is a number", api.Rule{When: api.Same, If: many, Key: line, Val: many}, api.ErrShape},
		{"no If", api.Rule{When: api.Same, Key: line, Val: many}, api.ErrShape},
		{"If ahead of Key", api.Rule{When: api.Same, If: many, Key: deep(9), Val: many}, api.ErrShape},
		{"When 3", api.Rule{When: 3, Key: line, Val: many}, api.ErrShape},
		{"When 3 with If", api.Rule{When: 3, If: line, S: "s", Key: line, Val: many}, api.ErrShape},
		{"When below 0", api.Rule{When: -1, Key: line, Val: many}, api.ErrShape},
		{"When 3 ahead of Key", api.Rule{When: 3, Key: deep(9), Val: many}, api.ErrShape},
		{"Key is a number", api.Rule{Key: many, Val: many}, api.ErrShape},
		{"Key too deep", api.Rule{Key: deep(api.MaxDeep + 1), Val: many}, api.ErrMany},
		{"Key ahead of Val", api.Rule{Key: many, Val: deep(9)}, api.ErrShape},
		{"Val is a text", api.Rule{Key: line, Val: line}, api.ErrShape},
		{"Val too deep", api.Rule{Key: line, Val: length(deep(api.MaxDeep))}, api.ErrMany},
		{"It in Key", api.Rule{Key: it, Val: many}, api.ErrShape},
		{"It in Val", api.Rule{Key: line, Val: length(it)}, api.ErrShape},
		{"It in If", api.Rule{When: api.Same, If: it, Key: line, Val: many}, api.ErrShape},
		{"It of each word", api.Rule{Each: true, When: api.Same, If: it, Key: it, Val: length(it)}, nil},
		{"If holds itself", api.Rule{When: api.Same, If: self(api.Cut), Key: line, Val: many}, api.ErrMany},
		{"Key holds itself", api.Rule{Key: self(api.Cut), Val: many}, api.ErrMany},
		{"always, If holds itself", api.Rule{If: self(0), Key: line, Val: many}, api.ErrShape},
	} {
		if got := job.Check(rules(c.r)); got != c.want {
			t.Errorf("%s: Check = %v, want %v", c.name, got, c.want)
		}
		s, err := job.Text(rules(c.r))
		if err != c.want || (err != nil) != (s == "") {
			t.Errorf("%s: Text = %q, %v, want %v", c.name, s, err, c.want)
		}
	}
	first := rules(always(line, line), always(deep(9), many))
	if got := job.Check(first); got != api.ErrShape {
		t.Errorf("Check of two rules = %v, want the first one's", got)
	}
}

// texts of jobs, each one way and the other.
func texts() []struct {
	s string
	j api.Job
} {
	return []struct {
		s string
		j api.Job
	}{
		{"count 2\neach other it \"the\" key it val num 1\n",
			api.Job{Fold: api.Count, Slices: 2, Rules: []api.Rule{{Each: true, When: api.Other, If: it, S: "the", Key: it, Val: num(1)}}}},
		{"sum 1\nkey line val many\n",
			api.Job{Fold: api.Sum, Slices: 1, Rules: []api.Rule{always(line, many)}}},
		{"least 4 early\nkey word 0 val num -1000\n",
			api.Job{Fold: api.Least, Slices: 4, Early: true, Rules: []api.Rule{always(word(0), num(-1000))}}},
		{"greatest 3\neach key it val len it\n",
			api.Job{Fold: api.Greatest, Slices: 3, Rules: []api.Rule{{Each: true, Key: it, Val: length(it)}}}},
		{"sum 1\nsame cut 3 line \"\" key cat word 120 text \"\" val add num 0 len cut 0 line\n",
			rules(api.Rule{When: api.Same, If: cut(3, line), Key: cat(word(120), text("")), Val: add(num(0), length(cut(0, line)))})},
		{"sum 1\nother text \" key \" \" val \\\" \" key text \"\\\\\\\"\" val many\n",
			rules(api.Rule{When: api.Other, If: text(" key "), S: " val \" ", Key: text("\\\""), Val: many})},
		{"sum 1\nkey text \"\\\\\" val many\nkey text \"\\\"\" val num 7\neach same it \"each \" key it val num 1\nkey line val many\n",
			rules(always(text("\\"), many), always(text("\""), num(7)), api.Rule{Each: true, When: api.Same, If: it, S: "each ", Key: it, Val: num(1)}, always(line, many))},
		{"sum 1\nkey text \"\x00\xff\t\r \u00e9\\\\n\" val many\n",
			rules(always(text("\x00\xff\t\r \u00e9\\n"), many))},
		{"sum 1\nkey cut 9 cut 9 cut 9 cut 9 line val add add many num 1 len cat word 1 word 2\n",
			rules(always(deep(api.MaxDeep), add(add(many, num(1)), length(cat(word(1), word(2))))))},
		{"sum 1\nkey text \"12345678901234567890\" val add num 1000 num -1\n",
			rules(always(text("12345678901234567890"), add(num(1000), num(-1))))},
	}
}

// C2: the text of each, and what is read of it again (C3, W6).
func TestText(t *testing.T) {
	for _, c := range texts() {
		s, err := job.Text(c.j)
		if s != c.s || err != nil {
			t.Errorf("Text = %q, %v, want %q", s, err, c.s)
		}
	}
}

// C3: each text, back.
func TestParse(t *testing.T) {
	for _, c := range texts() {
		j, err := job.Parse(c.s)
		if !reflect.DeepEqual(j, c.j) || err != nil {
			t.Errorf("Parse(%q) = %v, %v, want %v", c.s, j, err, c.j)
		}
	}
}

// C3: a text that is cut, or that has a byte more, is that of another job, or of none.
func TestParseCut(t *testing.T) {
	for _, c := range texts() {
		for i := range len(c.s) {
			alone(t, c.s[:i])
			alone(t, c.s[i+1:])
			alone(t, c.s[:i]+c.s[i+1:])
			for _, more := range []string{" ", "\n", "\"", "\\", "0", "-", "+", "it ", "\x00"} {
				alone(t, c.s[:i]+more+c.s[i:])
			}
		}
	}
}

// alone: a text is a job's whose Text it is, or none's, beside which there is no job.
func alone(t *testing.T, s string) {
	t.Helper()
	j, err := job.Parse(s)
	if err != nil {
		if err != api.ErrText || !reflect.DeepEqual(j, api.Job{}) {
			t.Errorf("Parse(%q) = %v, %v", s, j, err)
		}
		return
	}
	if back, err := job.Text(j); back != s || err != nil {
		t.Errorf("Parse(%q) has the text %q, %v", s, back, err)
	}
}

// C3: texts that are no job's.
func TestParseWrong(t *testing.T) {
	long := strings.Repeat("t", api.MaxText+1)
	for _, s := range []string{
		"", "\n", "\n\n", "sum 1", "sum 1\n", "sum 1\n\n",
		"sum 1\nkey line val many",             // no end
		"\nsum 1\nkey line val many\n",         // a line ahead
		"sum 1\n\nkey line val many\n",         // a line between
		"sum 1\nkey line val many\n\n",         // a line behind
		"sum 1\nkey line val many \n",          // a blank behind
		"sum 1 \nkey line val many\n",          // likewise
		" sum 1\nkey line val many\n",          // a blank ahead
		"sum 1\n key line val many\n",          // likewise
		"sum  1\nkey line val many\n",          // two blanks
		"sum 1\nkey  line val many\n",          // likewise
		"sum 1\nkey line  val many\n",          // likewise
		"sum 1\nkey cat line  line val many\n", // likewise
		"sum\t1\nkey line val many\n",          // no blank
		"sum 1\r\nkey line val many\r\n",
		"sum\nkey line val many\n", "1\nkey line val many\n",
		"sum 0\nkey line val many\n", "sum 5\nkey line val many\n", "sum -1\nkey line val many\n",
		"sum 01\nkey line val many\n", "sum +1\nkey line val many\n", "sum 1_0\nkey line val many\n", "sum x\nkey line val many\n",
		"sum 99999999999999999999\nkey line val many\n",
		"Sum 1\nkey line val many\n", "sums 1\nkey line val many\n", "average 1\nkey line val many\n",
		"sum 1 late\nkey line val many\n", "sum 1 early early\nkey line val many\n", "sum 1early\nkey line val many\n", "early sum 1\nkey line val many\n",
		"sum 1\nkey line\n", "sum 1\nval many\n", "sum 1\nval many key line\n", "sum 1\nline val many\n", "sum 1\nkey line many\n",
		"sum 1\nkex line val many\n", "sum 1\nkey line vax many\n",
		"sum 1\nkey many val many\n", "sum 1\nkey line val line\n", // a number as a key, a text as a value
		"sum 1\nkey it val many\n", "sum 1\nkey line val len it\n", // It without each
		"sum 1\neach each key it val many\n", "sum 1\nsame line \"\" each key line val many\n",
		"sum 1\nalways key line val many\n",
		"sum 1\nsame line key line val many\n", "sum 1\nsame \"s\" key line val many\n", "sum 1\nsame line \"s\"key line val many\n",
		"sum 1\nsame many \"s\" key line val many\n", "sum 1\nother line \"" + long + "\" key line val many\n",
		"sum 1\nsame line \"s\" same line \"s\" key line val many\n",
		"sum 1\nkey word val many\n", "sum 1\nkey word -1 val many\n", "sum 1\nkey word 121 val many\n", "sum 1\nkey word 00 val many\n", "sum 1\nkey word -0 val many\n",
		"sum 1\nkey line 0 val many\n", "sum 1\nkey line val many 0\n", "sum 1\nkey line val num 1 1\n",
		"sum 1\nkey line val num\n", "sum 1\nkey line val num 1001\n", "sum 1\nkey line val num -1001\n", "sum 1\nkey line val num 1.0\n",
		"sum 1\nkey line val num 9223372036854775808\n", "sum 1\nkey line val num --1\n",
		"sum 1\nkey text val many\n", "sum 1\nkey text t val many\n", "sum 1\nkey text \"t val many\n", "sum 1\nkey text t\" val many\n", "sum 1\nkey text 't' val many\n",
		"sum 1\nkey text \"\\t\" val many\n", "sum 1\nkey text \"a\"b\" val many\n", "sum 1\nkey text \"\\\" val many\n", "sum 1\nkey text \"a\nb\" val many\n",
		"sum 1\nkey text \"" + long + "\" val many\n", "sum 1\nkey line val len text \"\\",
		"sum 1\nkey cat val many\n", "sum 1\nkey cat line val many\n", "sum 1\nkey cat line line line val many\n", "sum 1\nkey cat line many val many\n",
		"sum 1\nkey cut line val many\n", "sum 1\nkey cut 1 val many\n", "sum 1\nkey cut 121 line val many\n", "sum 1\nkey cut line 1 val many\n",
		"sum 1\nkey line val add many\n", "sum 1\nkey line val len many\n", "sum 1\nkey line val add many line\n",
		"sum 1\nkey Line val many\n", "sum 1\nkey lines val many\n", "sum 1\nkey lin val many\n", "sum 1\nkey (line) val many\n", "sum 1\nkey  val many\n",
		"sum 1\nkey cut 9 cut 9 cut 9 cut 9 cut 9 line val many\n", // too deep
		"sum 1\n" + strings.Repeat("key line val many\n", api.MaxRules+1),
		strings.Repeat("cat ", 200), strings.Repeat("\n", api.MaxProgram), strings.Repeat("\"", api.MaxProgram), strings.Repeat("\\", api.MaxProgram),
		"sum 1\nkey " + strings.Repeat("cat ", 190), "sum 1\nkey " + strings.Repeat("cut 1 ", 125) + "line val many\n",
	} {
		if j, err := job.Parse(s); err != api.ErrText || !reflect.DeepEqual(j, api.Job{}) {
			t.Errorf("Parse(%q) = %v, %v, want ErrText and no job", s, j, err)
		}
	}
}

// sized: a job whose text has just so many bytes, of 500 to 900.
func sized(size int) api.Job {
	j := rules()
	full := text(strings.Repeat("\"", api.MaxText))
	for range api.MaxRules {
		j.Rules = append(j.Rules, always(cat(full, full), many))
	}
	for i := range j.Rules {
		j.Rules[i].When, j.Rules[i].If = api.Same, cat(text(""), full)
	}
	left := size - bytesOf(j)
	for i := range j.Rules {
		n := max(0, min(left, api.MaxText))
		j.Rules[i].S = strings.Repeat("s", n)
		left -= n
		n = max(0, min(left, api.MaxText))
		j.Rules[i].If = cat(text(strings.Repeat("i", n)), full)
		left -= n
	}
	return j
}

// bytesOf the text of such a job, as the chapter has it.
func bytesOf(j api.Job) int {
	n := len("sum 1\n")
	for range j.Rules {
		q := len(`text ""`) + 2*api.MaxText
		n += len(`same cat text "" `) + q + len(` "" key cat `) + q + len(" ") + q + len(" val many\n")
	}
	return n
}

// C2, C3: MaxProgram, either side.
func TestMaxProgram(t *testing.T) {
	for size := api.MaxProgram - 2; size <= api.MaxProgram; size++ {
		j := sized(size)
		s, err := job.Text(j)
		if len(s) != size || err != nil {
			t.Errorf("Text has %d bytes, %v, want %d", len(s), err, size)
		}
		if back, err := job.Parse(s); err != nil || !reflect.DeepEqual(back, j) {
			t.Errorf("Parse of %d bytes = %v, %v", size, back, err)
		}
	}
	j := sized(api.MaxProgram + 1)
	if err := job.Check(j); err != nil {
		t.Errorf("Check = %v, want none: it asks nothing of the text", err)
	}
	if s, err := job.Text(j); s != "" || err != api.ErrMany {
		t.Errorf("Text = %q, %v, want ErrMany", s, err)
	}
	for s, want := range map[string]error{
		strings.Repeat("x", api.MaxProgram):                       api.ErrText,
		strings.Repeat("x", api.MaxProgram+1):                     api.ErrMany,
		"sum 1\nkey line val many\n" + strings.Repeat("\n", 9999): api.ErrMany,
	} {
		if j, err := job.Parse(s); err != want || !reflect.DeepEqual(j, api.Job{}) {
			t.Errorf("Parse of %d bytes = %v, %v, want %v", len(s), j, err, want)
		}
	}
}

// Z2: no list is written into or looked behind, and two answers share none.
func TestLists(t *testing.T) {
	behind := []api.Rule{always(line, many), {When: 99}}
	j := api.Job{Rules: behind[:1], Fold: api.Sum, Slices: 1}
	if s, err := job.Text(j); s != "sum 1\nkey line val many\n" || err != nil {
		t.Errorf("Text = %q, %v", s, err)
	}
	if behind[1].When != 99 {
		t.Error("Text writes behind a list")
	}
	const s = "sum 1\nkey cat line line val many\nkey cat line line val many\n"
	one, _ := job.Parse(s)
	two, _ := job.Parse(s)
	one.Rules[0].Key.A[0] = it
	one.Rules[0].Each = true
	if one.Rules[1].Key.A[0].Kind != api.Line || two.Rules[0].Key.A[0].Kind != api.Line || two.Rules[0].Each {
		t.Error("two lists share memory")
	}
}

// C3, W6: whatever is read is told just so.
func FuzzParse(f *testing.F) {
	for _, c := range texts() {
		f.Add(c.s)
	}
	f.Fuzz(func(t *testing.T, s string) {
		j, err := job.Parse(s)
		if err != nil {
			if len(s) > api.MaxProgram && err != api.ErrMany || len(s) <= api.MaxProgram && err != api.ErrText || !reflect.DeepEqual(j, api.Job{}) {
				t.Errorf("Parse(%q) = %v, %v", s, j, err)
			}
			return
		}
		if back, err := job.Text(j); back != s || err != nil {
			t.Errorf("Text = %q, %v, want %q", back, err, s)
		}
	})
}

// maker of expressions out of bytes.
type maker struct{ from []byte }

func (m *maker) next(most int) int {
	if len(m.from) == 0 {
		return 0
	}
	n := int(m.from[0]) % most
	m.from = m.from[1:]
	return n
}

func (m *maker) bytes() string {
	n := min(m.next(api.MaxText+2), len(m.from))
	s := string(m.from[:n])
	m.from = m.from[n:]
	return s
}

func (m *maker) expr(isText bool, deep int) api.Expr {
	kinds := []int{api.Num, api.Many, api.Len, api.Add}
	if isText {
		kinds = []int{api.It, api.Line, api.Word, api.Text, api.Cat, api.Cut}
	}
	e := api.Expr{Kind: kinds[m.next(len(kinds))]}
	switch e.Kind {
	case api.Word, api.Cut, api.Num:
		e.N = m.next(122) - m.next(2)
	case api.Text:
		e.S = m.bytes()
	}
	parts := map[int]int{api.Cat: 2, api.Cut: 1, api.Len: 1, api.Add: 2}[e.Kind]
	for range min(parts, deep*parts) {
		e.A = append(e.A, m.expr(isText || e.Kind == api.Len, deep-1))
	}
	return e
}

func (m *maker) job() api.Job {
	j := api.Job{Fold: 1 + m.next(4), Early: m.next(2) == 0, Slices: 1 + m.next(4)}
	for range 1 + m.next(4) {
		r := api.Rule{Each: m.next(8) > 0, When: m.next(3), Key: m.expr(true, 4), Val: m.expr(false, 4)}
		if r.When != api.Always {
			r.If, r.S = m.expr(true, 3), m.bytes()
		}
		j.Rules = append(j.Rules, r)
	}
	return j
}

// told: a job's text is read as that job; false, if it has none.
func told(t *testing.T, from []byte) bool {
	t.Helper()
	m := maker{from}
	j := m.job()
	s, err := job.Text(j)
	if check := job.Check(j); check != nil && err != check {
		t.Errorf("Text(%v) tells %v, Check %v", j, err, check)
	}
	if err != nil {
		return false
	}
	if back, err := job.Parse(s); err != nil || !reflect.DeepEqual(back, j) {
		t.Errorf("Parse(%q) = %v, %v, want %v", s, back, err, j)
	}
	return true
}

// W6: whatever is told is read, of many jobs.
func TestTold(t *testing.T) {
	bytes := rand.New(rand.NewPCG(3, 4))
	many := 0
	for range 3000 {
		from := make([]byte, 200)
		for i := range from {
			from[i] = byte(bytes.IntN(256))
		}
		if told(t, from) {
			many++
		}
	}
	if many < 300 {
		t.Errorf("%d jobs have texts: too few to tell", many)
	}
}

// W6: likewise, of jobs that are made up on the way.
func FuzzText(f *testing.F) {
	f.Add([]byte("\x01\x00\x01\x02\x00\x01\x01\x09"))
	f.Add([]byte("\x04\x01\x03\x01\x00\x02\x04\x02\"\\\x07\x05\x00\x01\x03the"))
	f.Fuzz(func(t *testing.T, from []byte) { told(t, from) })
}
