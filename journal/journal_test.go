package journal_test

import (
	"math"
	"slices"
	"strconv"
	"strings"
	"testing"

	"threshfloor/journal"
)

// same: are two entries? Lists without anything may be nil or not.
func same(a, b journal.Entry) bool {
	return a.Kind == b.Kind && slices.Equal(a.N, b.N) && slices.Equal(a.Texts, b.Texts)
}

// die: numbers that look drawn, the same each time.
type die uint64

func (d *die) n(most int) int {
	*d = *d*6364136223846793005 + 1442695040888963407
	return int(uint64(*d>>33) % uint64(most))
}

// entries, each with its text: one way and the other.
var entries = []struct {
	e    journal.Entry
	text string
}{
	{journal.Entry{Kind: "job", N: []int{0, 2}, Texts: []string{"sum 1\n", "hay\noats\n"}}, "job 0 2; 6 9\nsum 1\nhay\noats\n."},
	{journal.Entry{Kind: "out", N: []int{1, 0}, Texts: []string{"3:hay 2\n"}}, "out 1 0; 8\n3:hay 2\n."},
	{journal.Entry{Kind: "x"}, "x;\n."},
	{journal.Entry{Kind: "x", N: []int{}, Texts: []string{}}, "x;\n."},
	{journal.Entry{Kind: "x", N: []int{7}}, "x 7;\n."},
	{journal.Entry{Kind: "x", N: []int{0, -1, 10, -10}}, "x 0 -1 10 -10;\n."},
	{journal.Entry{Kind: "x", N: []int{math.MaxInt64, math.MinInt64}}, "x 9223372036854775807 -9223372036854775808;\n."},
	{journal.Entry{Kind: "x", Texts: []string{""}}, "x; 0\n."},
	{journal.Entry{Kind: "x", Texts: []string{"", "", ""}}, "x; 0 0 0\n."},
	{journal.Entry{Kind: "x", Texts: []string{"a", "", "bc"}}, "x; 1 0 2\nabc."},
	{journal.Entry{Kind: "x", Texts: []string{"."}}, "x; 1\n.."},
	{journal.Entry{Kind: "x", Texts: []string{"y;\n.", "\n"}}, "x; 4 1\ny;\n.\n."},
	{journal.Entry{Kind: "x", Texts: []string{"\u00e9\x00\xff"}}, "x; 4\n\u00e9\x00\xff."},
	{journal.Entry{Kind: "x", Texts: []string{strings.Repeat("a", 1000)}}, "x; 1000\n" + strings.Repeat("a", 1000) + "."},
	{journal.Entry{Kind: "\t\x00\xff.\r-1"}, "\t\x00\xff.\r-1;\n."},
	{journal.Entry{Kind: "12", N: []int{3}}, "12 3;\n."},
}

// G1: the text of each.
func TestText(t *testing.T) {
	for _, c := range entries {
		if got := journal.Text(c.e); got != c.text {
			t.Errorf("Text(%v) = %q, want %q", c.e, got, c.text)
		}
	}
}

// G1: kinds with which none begins have a text, too.
func TestTextOfOtherKinds(t *testing.T) {
	for kind, want := range map[string]string{
		"":    " 1; 1\na.",
		"a b": "a b 1; 1\na.",
		";":   "; 1; 1\na.",
		"\n":  "\n 1; 1\na.",
	} {
		s := journal.Text(journal.Entry{Kind: kind, N: []int{1}, Texts: []string{"a"}})
		if s != want {
			t.Errorf("Text of kind %q = %q, want %q", kind, s, want)
		}
		none(t, s)
	}
}

// G2: what is told is read, whatever stands behind it.
func TestOne(t *testing.T) {
	for _, c := range entries {
		for _, behind := range []string{"", ".", "\n", "x;\n.", " 1", ";", "\x00"} {
			e, rest, ok := journal.One(c.text + behind)
			if !ok || !same(e, c.e) || rest != behind {
				t.Errorf("One(%q) = %v, %q, %v, want %v, %q", c.text+behind, e, rest, ok, c.e, behind)
			}
		}
	}
}

// none: a text begins with none: false, the text itself, and nothing else.
func none(t *testing.T, s string) {
	t.Helper()
	e, rest, ok := journal.One(s)
	if ok || rest != s || e.Kind != "" || len(e.N) != 0 || len(e.Texts) != 0 {
		t.Errorf("One(%q) = %v, %q, %v, want none, and the text itself", s, e, rest, ok)
	}
	if l := journal.Parse(s); len(l) != 0 {
		t.Errorf("Parse(%q) = %v, want none", s, l)
	}
}

// G2: texts that begin with none.
func TestOneOfNone(t *testing.T) {
	for _, s := range []string{
		"", "\n", ".", ";", "\n.", ";.", ";\n", ";\n.", "x", "x;", "x;.", "x\n", "x\n.", "x.", "x;\n",
		// no line with ';'
		"x\n;\n.", "x 1\n;\n.", "\nx;\n.", "\n;\n.", "x y.\n", "xy\n.;",
		// Kind
		" ;\n.", " 1;\n.", " x;\n.", "x ;\n.", "x  ;\n.",
		// numbers
		"x 01;\n.", "x 00;\n.", "x -0;\n.", "x -01;\n.", "x +1;\n.", "x -;\n.", "x --1;\n.", "x 1-;\n.", "x 1x;\n.", "x x;\n.", "x 1.0;\n.", "x 1e2;\n.", "x 0x1;\n.", "x 1_0;\n.",
		"x  1;\n.", "x 1 ;\n.", "x 1  2;\n.", "x\t1 2x;\n.", "x 1\t;\n.", "x 1\t2;\n.", "x \u0661;\n.", "x 1 y;\n.",
		"x 9223372036854775808;\n.", "x -9223372036854775809;\n.", "x 99999999999999999999999999;\n.",
		// how many bytes texts have
		"x;0\n.", "x;1\na.", "x; \n.", "x;  1\na.", "x; 1 \na.", "x; 1  1\nab.", "x; 01\na.", "x; 00\n.", "x; +1\na.", "x; -0\n.", "x; -1\n.", "x; 2 -1\na.", "x; -1 2\na.", "x; a\na.", "x; 1a\na.", "x; 1;\na.", "x;;\n.", "x;x\n.", "x;x 1\na.", "x; 1\r\na.", "x;\r\n.",
		"x; 9223372036854775807\na.", "x; 9223372036854775808\na.", "x; 9223372036854775807 9223372036854775807 2\n.", "x; 18446744073709551616\n.", "x; 4294967296\n.", "x; 4294967297\na.",
		// texts, and '.'
		"x; 1\n", "x; 1\na", "x; 1\n.", "x; 2\na.", "x; 0\na.", "x; 1\nab.", "x; 1 1\na.", "x; 1 1\nab", "x;\na.", "x;\n\n.", "x;\n ", "x; 0\n", "x; 3\nab.",
	} {
		none(t, s)
	}
}

// G2: an entry that is cut anywhere is none.
func TestOneCut(t *testing.T) {
	for _, c := range entries {
		for k := range len(c.text) {
			none(t, c.text[:k])
		}
	}
}

// G2: entries one behind the other, and cut anywhere: those that are whole.
func TestParse(t *testing.T) {
	var want []journal.Entry
	var ends []int
	s := ""
	for _, c := range entries {
		want, s = append(want, c.e), s+c.text
		ends = append(ends, len(s))
	}
	for k := range len(s) + 1 {
		whole := 0
		for whole < len(ends) && ends[whole] <= k {
			whole++
		}
		if got := journal.Parse(s[:k]); !slices.EqualFunc(got, want[:whole], same) {
			t.Fatalf("Parse of %d bytes = %v, want %v", k, got, want[:whole])
		}
	}
}

// G2: what stands behind the first that is none isn't looked at.
func TestParseUpToNone(t *testing.T) {
	want := []journal.Entry{{Kind: "a", N: []int{1}}, {Kind: "b", Texts: []string{"c"}}}
	for _, wrong := range []string{"\n", " ", ";", "x\n", "x;\n", "x 01;\n.", "x; 2\na.", ";\n."} {
		s := "a 1;\n.b; 1\nc." + wrong + "d;\n."
		if got := journal.Parse(s); !slices.EqualFunc(got, want, same) {
			t.Errorf("Parse(%q) = %v, want %v", s, got, want)
		}
	}
	if got := journal.Parse(""); len(got) != 0 {
		t.Errorf("Parse of no bytes = %v", got)
	}
}

// drawn entry, of which what is told is read.
func drawn(d *die) journal.Entry {
	e := journal.Entry{Kind: []string{"job", "out", "x", "\xff", "."}[d.n(5)]}
	for range d.n(4) {
		e.N = append(e.N, d.n(3000)-1500)
	}
	for range d.n(4) {
		e.Texts = append(e.Texts, "x; 1\n.. -1;\n\x00\u00e9"[d.n(16):])
	}
	return e
}

// W6: many entries.
func TestToldIsRead(t *testing.T) {
	d := die(1)
	for i := range 500 {
		var l []journal.Entry
		s := ""
		for range i % 7 {
			e := drawn(&d)
			l, s = append(l, e), s+journal.Text(e)
		}
		if got := journal.Parse(s); !slices.EqualFunc(got, l, same) {
			t.Fatalf("Parse(%q) = %v, want %v", s, got, l)
		}
	}
}

// alone: what One answers of a text: the text of the entry and what stands behind it are the whole text; or there is none.
func alone(t *testing.T, s string) {
	t.Helper()
	e, rest, ok := journal.One(s)
	if !ok {
		none(t, s)
		return
	}
	if journal.Text(e)+rest != s || e.Kind == "" || strings.ContainsAny(e.Kind, " ;\n") {
		t.Errorf("One(%q) = %v, %q", s, e, rest)
	}
	l := journal.Parse(s)
	if len(l) == 0 || !same(l[0], e) || len(l) != 1+len(journal.Parse(rest)) {
		t.Errorf("Parse(%q) = %v, but One = %v, %q", s, l, e, rest)
	}
}

// G2: a byte is left out, put in, or another one.
func TestOneChanged(t *testing.T) {
	for _, c := range entries {
		s := c.text[:min(len(c.text), 40)]
		for k := range len(s) {
			for _, x := range []string{"", "0", "1", "-", "+", " ", "\n", ";", ".", "x"} {
				alone(t, s[:k]+x+s[k:])
				alone(t, s[:k]+x+s[k+1:])
			}
		}
	}
}

// Z1: long texts end, also those that are nothing but beginnings.
func TestLong(t *testing.T) {
	const many = 20000
	for _, s := range []string{strings.Repeat("x", many), strings.Repeat(";", many), strings.Repeat("x;", many), strings.Repeat(" 1", many), "x" + strings.Repeat(" ", many) + ";\n.", "x " + strings.Repeat("9", many) + ";\n.", "x; " + strings.Repeat("9", many) + "\n."} {
		none(t, s)
	}
	if got := len(journal.Parse(strings.Repeat("x;\n.", many))); got != many {
		t.Errorf("Parse of %d entries: %d", many, got)
	}
	e, _, ok := journal.One("x" + strings.Repeat(" -7", many) + ";" + strings.Repeat(" 1", many) + "\n" + strings.Repeat("a", many) + ".")
	if !ok || len(e.N) != many || len(e.Texts) != many {
		t.Errorf("One of %d numbers and texts: %d, %d, %v", many, len(e.N), len(e.Texts), ok)
	}
}

// Z2: no list is written into or looked behind; no two answers share memory.
func TestLists(t *testing.T) {
	n, texts := []int{1, 2, 3}, []string{"a", "b", "c"}
	if got := journal.Text(journal.Entry{Kind: "x", N: n[:2], Texts: texts[:1]}); got != "x 1 2; 1\na." {
		t.Errorf("Text = %q", got)
	}
	if !slices.Equal(n, []int{1, 2, 3}) || !slices.Equal(texts, []string{"a", "b", "c"}) {
		t.Errorf("left %v, %v", n, texts)
	}
	s := strings.Repeat("x 1 2; 1 1\nab.", 2)
	l := journal.Parse(s)
	for i := range l[0].N {
		l[0].N[i], l[0].Texts[i] = 9, "z"
	}
	_, _ = append(l[0].N, 9), append(l[0].Texts, "z")
	want := journal.Entry{Kind: "x", N: []int{1, 2}, Texts: []string{"a", "b"}}
	if again := journal.Parse(s); !same(l[1], want) || !same(again[0], want) {
		t.Errorf("written into one entry: %v, %v", l[1], again[0])
	}
}

// G2, W6: whatever is read is told just so.
func FuzzOne(f *testing.F) {
	for _, c := range entries {
		f.Add(c.text + c.text)
	}
	f.Fuzz(alone)
}

// W6: whatever is told is read.
func FuzzText(f *testing.F) {
	f.Add("job", 1, -1, "a", "b;\n.")
	f.Add("\x00", math.MaxInt, math.MinInt, "", "\xff")
	f.Fuzz(func(t *testing.T, kind string, n, m int, a, b string) {
		e := journal.Entry{Kind: kind, N: []int{n, m}, Texts: []string{a, b}}
		s := journal.Text(e)
		if want := kind + " " + strconv.Itoa(n) + " " + strconv.Itoa(m) + "; " + strconv.Itoa(len(a)) + " " + strconv.Itoa(len(b)) + "\n" + a + b + "."; s != want {
			t.Fatalf("Text(%v) = %q, want %q", e, s, want)
		}
		if kind == "" || strings.ContainsAny(kind, " ;\n") {
			alone(t, s)
			return
		}
		if got, rest, ok := journal.One(s); !ok || !same(got, e) || rest != "" {
			t.Errorf("One(%q) = %v, %q, %v, want %v", s, got, rest, ok, e)
		}
	})
}
