package expr_test

import (
	"math"
	"slices"
	"strings"
	"testing"

	"threshfloor/api"
	"threshfloor/expr"
)

// What expressions are made of here.
var (
	it   = api.Expr{Kind: api.It}
	line = api.Expr{Kind: api.Line}
	many = api.Expr{Kind: api.Many}
)

func word(n int) api.Expr               { return api.Expr{Kind: api.Word, N: n} }
func text(s string) api.Expr            { return api.Expr{Kind: api.Text, S: s} }
func cat(a ...api.Expr) api.Expr        { return api.Expr{Kind: api.Cat, A: a} }
func cut(n int, a ...api.Expr) api.Expr { return api.Expr{Kind: api.Cut, N: n, A: a} }
func num(n int) api.Expr                { return api.Expr{Kind: api.Num, N: n} }
func length(a ...api.Expr) api.Expr     { return api.Expr{Kind: api.Len, A: a} }
func add(a ...api.Expr) api.Expr        { return api.Expr{Kind: api.Add, A: a} }

// deep: a text with so many expressions in each other.
func deep(levels int, inner api.Expr) api.Expr {
	for range levels - 1 {
		inner = cut(9, inner)
	}
	return inner
}

// self: an expression whose list holds itself.
func self(kind, parts int) api.Expr {
	a := make([]api.Expr, parts)
	for i := range a {
		a[i] = api.Expr{Kind: kind, A: a}
	}
	return a[0]
}

// B1: texts are those from It to Cut.
func TestTexts(t *testing.T) {
	for kind, want := range map[int]bool{
		api.It: true, api.Line: true, api.Word: true, api.Text: true, api.Cat: true, api.Cut: true,
		api.Num: false, api.Len: false, api.Many: false, api.Add: false,
		0: false, 11: false, -1: false, math.MaxInt: false, math.MinInt: false,
	} {
		if got := expr.Texts(api.Expr{Kind: kind}); got != want {
			t.Errorf("Texts of kind %d = %t, want %t", kind, got, want)
		}
	}
	if !expr.Texts(api.Expr{Kind: api.Line, N: -1, S: "\n", A: []api.Expr{{}}}) {
		t.Error("Texts hangs on more than the kind")
	}
}

type checked struct {
	name string
	e    api.Expr
	want error
}

func checkAll(t *testing.T, text, each bool, l []checked) {
	t.Helper()
	for _, c := range l {
		if got := expr.Check(c.e, text, each); got != c.want {
			t.Errorf("%s: Check(%.200v, %t, %t) = %v, want %v", c.name, c.e, text, each, got, c.want)
		}
	}
}

// B1: each text, and the bounds of what it has.
func TestCheckTexts(t *testing.T) {
	checkAll(t, true, true, []checked{
		{"it", it, nil},
		{"line", line, nil},
		{"first word", word(0), nil},
		{"last word", word(api.MaxRecord), nil},
		{"word too far", word(api.MaxRecord + 1), api.ErrShape},
		{"word below 0", word(-1), api.ErrShape},
		{"empty text", text(""), nil},
		{"text of other bytes", text("\x00\xff\t\r \"\\"), nil},
		{"longest text", text(strings.Repeat("t", api.MaxText)), nil},
		{"text too long", text(strings.Repeat("t", api.MaxText+1)), api.ErrShape},
		{"text too long by bytes", text(strings.Repeat("\u00e9", api.MaxText/2) + "t"), api.ErrShape},
		{"text with an end of a line", text("a\nb"), api.ErrShape},
		{"text that is an end of a line", text("\n"), api.ErrShape},
		{"cat", cat(line, it), nil},
		{"cat of none", cat(), api.ErrShape},
		{"cat of one", cat(line), api.ErrShape},
		{"cat of three", cat(line, line, line), api.ErrShape},
		{"cat with a number ahead", cat(many, line), api.ErrShape},
		{"cat with a number behind", cat(line, many), api.ErrShape},
		{"cut to nothing", cut(0, line), nil},
		{"longest cut", cut(api.MaxRecord, line), nil},
		{"cut too long", cut(api.MaxRecord+1, line), api.ErrShape},
		{"cut below 0", cut(-1, line), api.ErrShape},
		{"cut of none", cut(1), api.ErrShape},
		{"cut of two", cut(1, line, line), api.ErrShape},
		{"cut of a number", cut(1, num(1)), api.ErrShape},
		{"no list is an empty one", api.Expr{Kind: api.Line, A: []api.Expr{}}, nil},
	})
}

// B1: each number, and the bounds of what it has.
func TestCheckNumbers(t *testing.T) {
	checkAll(t, false, true, []checked{
		{"num", num(0), nil},
		{"least num", num(-1000), nil},
		{"num too small", num(-1001), api.ErrShape},
		{"greatest num", num(1000), nil},
		{"num too great", num(1001), api.ErrShape},
		{"least number of all", num(math.MinInt), api.ErrShape},
		{"len", length(it), nil},
		{"len of none", length(), api.ErrShape},
		{"len of two", length(line, line), api.ErrShape},
		{"len of a number", length(many), api.ErrShape},
		{"many", many, nil},
		{"add", add(many, num(1)), nil},
		{"add of none", add(), api.ErrShape},
		{"add of one", add(many), api.ErrShape},
		{"add of three", add(many, many, many), api.ErrShape},
		{"add with a text ahead", add(line, many), api.ErrShape},
		{"add with a text behind", add(many, line), api.ErrShape},
	})
}

// B1: what a kind has no use for is zero.
func TestCheckUnused(t *testing.T) {
	for _, e := range []api.Expr{it, line, word(1), text("t"), cat(line, line), cut(1, line), num(1), length(line), many, add(many, many)} {
		if err := expr.Check(e, expr.Texts(e), true); err != nil {
			t.Fatalf("Check(%v) = %v, want none", e, err)
		}
		if e.Kind != api.Word && e.Kind != api.Cut && e.Kind != api.Num {
			for _, n := range []int{1, -1} {
				x := e
				x.N = n
				checkAll(t, expr.Texts(e), true, []checked{{"N", x, api.ErrShape}})
			}
		}
		if e.Kind != api.Text {
			x := e
			x.S = "s"
			checkAll(t, expr.Texts(e), true, []checked{{"S", x, api.ErrShape}})
		}
		for _, a := range []api.Expr{line, many} {
			x := e
			x.A = append(slices.Clone(e.A), a)
			checkAll(t, expr.Texts(e), true, []checked{{"A", x, api.ErrShape}})
		}
	}
}

// B1: a text where a number is wanted, and the other way round; kinds of which there are none; It without words.
func TestCheckShape(t *testing.T) {
	for _, isText := range []bool{true, false} {
		for _, e := range []api.Expr{it, line, word(0), text(""), cat(line, line), cut(0, line)} {
			want := error(api.ErrShape)
			if isText {
				want = nil
			}
			checkAll(t, isText, true, []checked{{"text", e, want}})
		}
		for _, e := range []api.Expr{num(0), length(line), many, add(many, many)} {
			want := error(api.ErrShape)
			if !isText {
				want = nil
			}
			checkAll(t, isText, true, []checked{{"number", e, want}})
		}
		for _, kind := range []int{0, 11, -1, math.MaxInt, math.MinInt} {
			checkAll(t, isText, true, []checked{{"no kind", api.Expr{Kind: kind}, api.ErrShape}})
		}
	}
	checkAll(t, true, false, []checked{
		{"it", it, api.ErrShape},
		{"it in it", cat(line, cut(1, it)), api.ErrShape},
		{"without it", cat(line, cut(1, line)), nil},
	})
	checkAll(t, false, false, []checked{
		{"it in a number", add(many, length(it)), api.ErrShape},
		{"none in it", add(many, length(text("\n"))), api.ErrShape},
		{"a kind that is none in it", add(many, api.Expr{}), api.ErrShape},
		{"without it", add(many, length(line)), nil},
	})
}

// B1: how many, and how deep; that is told ahead of all else.
func TestCheckMany(t *testing.T) {
	three := cat(line, line)
	seven := cat(three, three)
	fifteen := cat(seven, seven)
	n30 := cat(fifteen, cat(seven, cat(three, cut(9, line)))) // 1 + 15 + 1 + 7 + 1 + 3 + 2
	n31 := cat(fifteen, fifteen)
	checkAll(t, true, false, []checked{
		{"30", n30, nil},
		{"31", n31, api.ErrMany},
		{"deepest", deep(api.MaxDeep, line), nil},
		{"too deep", deep(api.MaxDeep+1, line), api.ErrMany},
		{"too deep behind", cat(line, deep(api.MaxDeep, line)), api.ErrMany},
		{"too deep, and no text", length(deep(api.MaxDeep, line)), api.ErrMany},
		{"too deep, and none", deep(api.MaxDeep+1, api.Expr{Kind: 99}), api.ErrMany},
		{"as deep, and none", deep(api.MaxDeep, api.Expr{Kind: 99}), api.ErrShape},
		{"too many in what has none", api.Expr{Kind: api.Line, A: make([]api.Expr, 30)}, api.ErrMany},
		{"as many in what has none", api.Expr{Kind: api.Line, A: make([]api.Expr, 29)}, api.ErrShape},
		{"too many in no kind", api.Expr{A: make([]api.Expr, 1000)}, api.ErrMany},
		{"too deep in no kind", api.Expr{A: []api.Expr{{A: []api.Expr{{A: []api.Expr{{A: []api.Expr{{A: []api.Expr{{}}}}}}}}}}}, api.ErrMany},
	})
}

// Z1: what holds itself ends, too.
func TestSelf(t *testing.T) {
	for _, e := range []api.Expr{self(api.Cat, 2), self(api.Cut, 1), self(api.Add, 2), self(api.Len, 1), self(0, 40), self(api.Line, 3)} {
		for _, isText := range []bool{true, false} {
			checkAll(t, isText, true, []checked{{"self", e, api.ErrMany}})
		}
		if s := expr.Str(e, expr.Of("hay")); s != "" {
			t.Errorf("Str = %q, want nothing", s)
		}
		if n := expr.Int(e, expr.Of("hay")); n != 0 {
			t.Errorf("Int = %d, want 0", n)
		}
	}
}

// B2: blanks alone part words, and none is empty.
func TestWords(t *testing.T) {
	for _, c := range []struct {
		s    string
		want []string
	}{
		{"", nil},
		{" ", nil},
		{"   ", nil},
		{"hay", []string{"hay"}},
		{" hay ", []string{"hay"}},
		{"the hay the oats", []string{"the", "hay", "the", "oats"}},
		{"  the   hay", []string{"the", "hay"}},
		{"a\tb c\nd\u00a0e", []string{"a\tb", "c\nd\u00a0e"}},
		{"\n", []string{"\n"}},
		{"\xff \xc3\x20\xa9", []string{"\xff", "\xc3", "\xa9"}},
		{"\x00 \x00", []string{"\x00", "\x00"}},
	} {
		if got := expr.Words(c.s); !slices.Equal(got, c.want) {
			t.Errorf("Words(%q) = %q, want %q", c.s, got, c.want)
		}
	}
}

// B2: a record has its line as it is, its words, and no word that is looked at.
func TestOf(t *testing.T) {
	for _, s := range []string{"", "  ", "the  hay ", "\n"} {
		r := expr.Of(s)
		if r.Line != s || r.It != "" || !slices.Equal(r.Words, expr.Words(s)) {
			t.Errorf("Of(%q) = %q", s, r)
		}
	}
}

// B3: each text.
func TestStr(t *testing.T) {
	r := expr.Of("the hay  \"oats\"")
	r.It = "hay"
	for _, c := range []struct {
		name string
		e    api.Expr
		want string
	}{
		{"it", it, "hay"},
		{"line", line, "the hay  \"oats\""},
		{"first word", word(0), "the"},
		{"last word", word(2), "\"oats\""},
		{"word behind the last one", word(3), ""},
		{"farthest word", word(api.MaxRecord), ""},
		{"text", text("x\"\\"), "x\"\\"},
		{"empty text", text(""), ""},
		{"cat", cat(text("a"), it), "ahay"},
		{"cat the other way round", cat(it, text("a")), "haya"},
		{"cut to nothing", cut(0, it), ""},
		{"cut", cut(2, it), "ha"},
		{"cut to all", cut(3, it), "hay"},
		{"cut to more", cut(api.MaxRecord, it), "hay"},
		{"cut of nothing", cut(5, text("")), ""},
		{"cut within a rune", cut(1, text("\u00e9")), "\xc3"},
		{"in each other", cat(cut(1, word(0)), cut(3, cat(word(2), line))), "t\"oa"},
		{"deepest", deep(api.MaxDeep, line), "the hay  "},
	} {
		if got := expr.Str(c.e, r); got != c.want {
			t.Errorf("%s: Str = %q, want %q", c.name, got, c.want)
		}
	}
}

// B3: each number.
func TestInt(t *testing.T) {
	r := expr.Of("the hay  oats")
	r.It = "\u00e9e"
	for _, c := range []struct {
		name string
		e    api.Expr
		want int
	}{
		{"num", num(7), 7},
		{"least num", num(-1000), -1000},
		{"greatest num", num(1000), 1000},
		{"len", length(line), 13},
		{"len by bytes", length(it), 3},
		{"len of nothing", length(word(9)), 0},
		{"many", many, 3},
		{"add", add(many, num(-10)), -7},
		{"add of the greatest", add(add(num(1000), num(1000)), num(1000)), 3000},
		{"in each other", add(length(cat(word(0), word(1))), add(many, num(1))), 10},
	} {
		if got := expr.Int(c.e, r); got != c.want {
			t.Errorf("%s: Int = %d, want %d", c.name, got, c.want)
		}
	}
	if n := expr.Int(many, expr.Of("  ")); n != 0 {
		t.Errorf("Int of no words = %d, want 0", n)
	}
}

// B3: a record is taken as it is handed in, whoever made it.
func TestRecord(t *testing.T) {
	r := expr.Record{Line: "a b", It: "c d", Words: []string{"", "e f", "g"}}
	if got := expr.Str(cat(cat(line, it), cat(word(0), word(1))), r); got != "a bc de f" {
		t.Errorf("Str = %q", got)
	}
	if got := expr.Int(many, r); got != 3 {
		t.Errorf("Int = %d, want 3", got)
	}
	if got := expr.Str(cat(cat(line, it), word(0)), expr.Record{}); got != "" {
		t.Errorf("Str of no record = %q", got)
	}
}

// Z1: what may not be answers nothing, and ends.
func TestWrong(t *testing.T) {
	r := expr.Of("the hay")
	for _, e := range []api.Expr{{}, {Kind: 11}, word(-1), word(math.MaxInt), cut(-1, line), cut(1), cat(line), num(1), text("a\nb")} {
		if s := expr.Str(e, r); s != "" {
			t.Errorf("Str(%v) = %q, want nothing", e, s)
		}
	}
	for _, e := range []api.Expr{{}, {Kind: -1}, num(math.MaxInt), length(), length(many), add(many), add(many, line), line} {
		if n := expr.Int(e, r); n != 0 {
			t.Errorf("Int(%v) = %d, want 0", e, n)
		}
	}
}

// Z2: no list is written into, nor what stands behind it; what comes out is fresh.
func TestLists(t *testing.T) {
	behind := []api.Expr{line, word(1), {Kind: 99}}
	e := api.Expr{Kind: api.Cat, A: behind[:2]}
	words := []string{"the", "hay", "behind"}
	r := expr.Record{Line: "the hay", Words: words[:2]}
	if err := expr.Check(e, true, false); err != nil {
		t.Errorf("Check = %v: it looks behind the list", err)
	}
	if got := expr.Str(e, r); got != "the hayhay" {
		t.Errorf("Str = %q", got)
	}
	if got := expr.Str(word(2), r); got != "" {
		t.Errorf("Str = %q: it looks behind the list", got)
	}
	if behind[0].Kind != api.Line || behind[1].Kind != api.Word || behind[2].Kind != 99 || !slices.Equal(words, []string{"the", "hay", "behind"}) {
		t.Error("a list was written into")
	}
	one := expr.Words("a b")
	one[0] = "z"
	if two := expr.Words("a b"); two[0] != "a" {
		t.Error("two answers share memory")
	}
}

// What package job asks of kinds.
func TestShapeOf(t *testing.T) {
	for kind, want := range map[int]expr.Shape{
		api.It:   {},
		api.Word: {High: api.MaxRecord},
		api.Text: {Bytes: api.MaxText},
		api.Cat:  {Parts: 2, Texts: true},
		api.Num:  {Low: -1000, High: 1000},
		api.Add:  {Parts: 2},
		0:        {}, 11: {}, -1: {},
	} {
		if got := expr.ShapeOf(kind); got != want {
			t.Errorf("ShapeOf(%d) = %v, want %v", kind, got, want)
		}
	}
}
