package pair_test

import (
	"math"
	"slices"
	"strconv"
	"strings"
	"testing"

	"threshfloor/api"
	"threshfloor/pair"
)

// A1: both bounds, either side of each.
func TestCheck(t *testing.T) {
	const wide = "\u00e9" // two bytes: bytes count, not runes
	for _, c := range []struct {
		name string
		p    api.Pair
		want error
	}{
		{"zero", api.Pair{}, nil},
		{"ordinary", api.Pair{Key: "hay", Val: 3}, nil},
		{"longest key", api.Pair{Key: strings.Repeat("k", api.MaxKey)}, nil},
		{"key too long", api.Pair{Key: strings.Repeat("k", api.MaxKey+1)}, api.ErrBound},
		{"longest key of wide runes", api.Pair{Key: strings.Repeat(wide, api.MaxKey/2)}, nil},
		{"key of wide runes too long", api.Pair{Key: strings.Repeat(wide, api.MaxKey/2) + "k"}, api.ErrBound},
		{"greatest value", api.Pair{Val: api.MaxVal}, nil},
		{"value too great", api.Pair{Val: api.MaxVal + 1}, api.ErrBound},
		{"least value", api.Pair{Val: -api.MaxVal}, nil},
		{"value too small", api.Pair{Val: -api.MaxVal - 1}, api.ErrBound},
		{"greatest number", api.Pair{Val: math.MaxInt}, api.ErrBound},
		{"least number", api.Pair{Val: math.MinInt}, api.ErrBound},
		{"both", api.Pair{Key: strings.Repeat("k", 99), Val: math.MaxInt}, api.ErrBound},
	} {
		if got := pair.Check(c.p); got != c.want {
			t.Errorf("%s: Check = %v, want %v", c.name, got, c.want)
		}
	}
}

// A2: numbers worked out elsewhere; bytes above 127, those of no rune, and noughts count too.
func TestSum(t *testing.T) {
	for s, want := range map[string]uint32{
		"":             2166136261,
		"a":            0xe40c292c,
		"b":            0xe70c2de5,
		"foobar":       0xbf9cf968,
		"\x00":         0x050c5d1f,
		"\xff":         0x7a0b824e,
		"\u00e9":       0x1e9de8c1,
		"a\nb":         0x28e4c710,
		"hay the oats": 0xc3955be3,
	} {
		if got := pair.Sum(s); got != want {
			t.Errorf("Sum(%q) = %#x, want %#x", s, got, want)
		}
	}
}

// A2: Slice is the Sum modulo many, and so from 0 on and below many.
func TestSlice(t *testing.T) {
	for _, key := range []string{"", "a", "b", "hay", "oats", "\xff\x00", strings.Repeat("x", 300)} {
		for many := 1; many <= 1000; many++ {
			want := int(int64(pair.Sum(key)) % int64(many))
			if got := pair.Slice(key, many); got != want {
				t.Fatalf("Slice(%q, %d) = %d, want %d", key, many, got, want)
			}
		}
	}
	for _, c := range []struct {
		key        string
		many, want int
	}{{"hay", 2, 1}, {"oats", 2, 0}, {"a", 4, 0}, {"b", 4, 1}, {"", 1000, 261}} {
		if got := pair.Slice(c.key, c.many); got != c.want {
			t.Errorf("Slice(%q, %d) = %d, want %d", c.key, c.many, got, c.want)
		}
	}
}

// Z1: nothing is said of what these answer.
func TestSliceEndsAnywhere(t *testing.T) {
	for _, many := range []int{0, -1, math.MinInt, 1001, math.MaxInt} {
		pair.Slice("hay", many)
	}
}

// texts: lists of pairs, and their Texts.
var texts = []struct {
	l    []api.Pair
	text string
}{
	{nil, ""},
	{[]api.Pair{{}}, "0: 0\n"},
	{[]api.Pair{{Key: "hay", Val: 2}}, "3:hay 2\n"},
	{[]api.Pair{{Key: "oats", Val: 3}, {Key: "hay", Val: -2}, {Key: "oats", Val: 3}}, "4:oats 3\n3:hay -2\n4:oats 3\n"},
	{[]api.Pair{{Key: "3:a 1\n", Val: 1}, {Key: " ", Val: 1}, {Key: ":", Val: 1}, {Key: "\n", Val: 1}}, "6:3:a 1\n 1\n1:  1\n1:: 1\n1:\n 1\n"},
	{[]api.Pair{{Key: "\u00e9\xff\x00", Val: 7}}, "4:\u00e9\xff\x00 7\n"},
	{[]api.Pair{{Key: "0123456789", Val: 10}, {Key: "", Val: 100}}, "10:0123456789 10\n0: 100\n"},
	{[]api.Pair{{Key: "a", Val: math.MaxInt}, {Key: "b", Val: math.MinInt}}, "1:a 9223372036854775807\n1:b -9223372036854775808\n"},
	{[]api.Pair{{Key: strings.Repeat("k", 1234), Val: api.MaxVal + 1}}, "1234:" + strings.Repeat("k", 1234) + " 1000000001\n"},
}

// A3: what Text tells.
func TestText(t *testing.T) {
	for _, c := range texts {
		kept := slices.Clone(c.l)
		if got := pair.Text(c.l); got != c.text {
			t.Errorf("Text(%#v) = %q, want %q", c.l, got, c.text)
		}
		if !slices.Equal(c.l, kept) {
			t.Errorf("Text wrote into its list: %#v, was %#v", c.l, kept)
		}
	}
}

// A3: what Text tells, Parse reads.
func TestParse(t *testing.T) {
	for _, c := range texts {
		got, err := pair.Parse(c.text)
		if err != nil || !slices.Equal(got, c.l) {
			t.Errorf("Parse(%q) = %#v, %v, want %#v", c.text, got, err, c.l)
		}
	}
}

// wrongTexts: none of them is a Text.
var wrongTexts = []string{
	" ", "\n", "0", "0:", "0: ", "0: 0", "0:0\n", "0:  0\n", "0: 0\n\n", "0: 0\n ", " 0: 0\n", "0 : 0\n", ": 0\n",
	"0: \n", "0: -\n", "0: -0\n", "0: +1\n", "0: 00\n", "0: 01\n", "0: -01\n", "0: 1 \n", "0: 1_0\n", "0: 0x1\n", "0: 1.0\n", "0: a\n", "0: \u0661\n", "0: 1\r\n",
	"0: 9223372036854775808\n", "0: -9223372036854775809\n", "0: 99999999999999999999999\n",
	"-0: 0\n", "+0: 0\n", "00: 0\n", "01:a 0\n", "-1:a 0\n", "x:a 0\n", "1_0:0123456789 0\n",
	"1: 0\n", "2:a 0\n", "1:ab 0\n", "9:a 0\n", "1:a0\n", "1:a\n0\n", "3:hay2\n",
	"9223372036854775807:a 0\n", "9223372036854775808:a 0\n", "99999999999999999999999:a 0\n", "-9223372036854775808:a 0\n",
	"3:hay 2", "3:hay 2\n4:oats 3", "3:hay 2\n4:oat 3\n", "3:hay 2\nx", "3:hay 2\n3",
}

// A3, Z1: a text of no pairs is an error, with no list beside it.
func TestParseWrong(t *testing.T) {
	for _, s := range wrongTexts {
		if l, err := pair.Parse(s); err != api.ErrText || len(l) != 0 {
			t.Errorf("Parse(%q) = %#v, %v, want none, %v", s, l, err, api.ErrText)
		}
	}
}

// A3: a text that is cut anywhere but behind a pair is none.
func TestParseCut(t *testing.T) {
	const one, two = "3:hay 22\n", "10:0123456789 -5\n"
	for cut := 1; cut < len(one+two); cut++ {
		s := (one + two)[:cut]
		if l, err := pair.Parse(s); cut != len(one) && (err != api.ErrText || len(l) != 0) {
			t.Errorf("Parse(%q) = %#v, %v, want none, %v", s, l, err, api.ErrText)
		}
	}
}

// A3: a key that is told to be longer than all that follows, also by one byte alone.
func TestParseKeyBeyondText(t *testing.T) {
	for size := 1; size < 12; size++ {
		for _, behind := range []string{"", "a", "a ", "a 0\n", "abcdef 0\n"} {
			s := strconv.Itoa(size) + ":" + behind
			if l, err := pair.Parse(s); s != "1:a 0\n" && s != "6:abcdef 0\n" && (err != api.ErrText || len(l) != 0) {
				t.Errorf("Parse(%q) = %#v, %v, want none, %v", s, l, err, api.ErrText)
			}
		}
	}
}

// Z2: what one call answers is not touched by what is done with another one's answer.
func TestParseIsFresh(t *testing.T) {
	const s = "1:a 1\n1:b 2\n"
	one, _ := pair.Parse(s)
	two, _ := pair.Parse(s)
	one[0] = api.Pair{Key: "z", Val: 9}
	if want := []api.Pair{{Key: "a", Val: 1}, {Key: "b", Val: 2}}; !slices.Equal(two, want) {
		t.Errorf("Parse(%q) = %#v, want %#v", s, two, want)
	}
}

// A3: of every text, Parse answers pairs whose Text it is, or says that there are none.
func FuzzParse(f *testing.F) {
	for _, c := range texts {
		f.Add(c.text)
	}
	for _, s := range wrongTexts {
		f.Add(s)
	}
	f.Fuzz(func(t *testing.T, s string) {
		l, err := pair.Parse(s)
		if err != nil {
			if err != api.ErrText || len(l) != 0 {
				t.Fatalf("Parse(%q) = %#v, %v", s, l, err)
			}
			return
		}
		if back := pair.Text(l); back != s {
			t.Fatalf("Parse(%q) = %#v, whose Text is %q", s, l, back)
		}
	})
}

// A3: of every pair that there may be, its Text is read as it.
func FuzzText(f *testing.F) {
	f.Add("", 0, "", 0)
	f.Add("hay", 2, "oats", -3)
	f.Add("1:a 1\n", math.MaxInt, "\xff:", math.MinInt)
	f.Fuzz(func(t *testing.T, k1 string, v1 int, k2 string, v2 int) {
		l := []api.Pair{{Key: k1, Val: v1}, {Key: k2, Val: v2}}
		got, err := pair.Parse(pair.Text(l))
		if err != nil || !slices.Equal(got, l) {
			t.Fatalf("Parse(Text(%#v)) = %#v, %v", l, got, err)
		}
	})
}

// Z3: numbers as they are told, and no other texts: what other packages read numbers by.
func TestNumber(t *testing.T) {
	for _, n := range []int{0, 1, -1, 9, 10, -10, 1000, math.MaxInt, math.MinInt} {
		if got, ok := pair.Number(strconv.Itoa(n)); got != n || !ok {
			t.Errorf("Number of %d = %d, %v", n, got, ok)
		}
	}
	for _, s := range []string{"", " ", "-", "+", "+1", "01", "00", "-0", "-01", "--1", " 1", "1 ", "1\n", "1.", "1e2", "0x1", "1_0", "a", "\u0661", "9223372036854775808", "-9223372036854775809", strings.Repeat("9", 500)} {
		if got, ok := pair.Number(s); got != 0 || ok {
			t.Errorf("Number(%q) = %d, %v, want none", s, got, ok)
		}
	}
}
