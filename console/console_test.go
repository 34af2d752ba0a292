package console_test

import (
	"slices"
	"strings"
	"testing"

	"threshfloor/api"
	"threshfloor/console"
)

// example: the document's session.
const example = `job => error 4
rule count 2 => ok
rule each other it "the" key it val num 1 => ok
record the hay the oats => ok
record hay => ok
record oats oats the => ok
job => 4:oats 3/|3:hay 2/
floor 2 1 1 1 3 2 => ok
submit 0 2 => 0
submit 1 1 => 1
has => 0 0
offer 0 => 0 map 0
offer 1 => 1 map 0
work 0 1 => ok
in 0 0 => 0 map 0
offer 0 => error 8
suspend 0 0 => ok
status 0 => 0 0/2 0/2
status 1 => 1 0/3 0/2
offer 0 => 0 map 0
work 0 9 => ok
work 1 9 => ok
offer 0 => 0 map 1
offer 1 => 1 map 1
work 0 9 => ok
work 1 9 => ok
crash 1 => ok
status 1 => 1 0/3 0/2
offer 0 => 0 fold 0
work 0 9 => ok
offer 1 => 0 fold 1
work 1 9 => ok
offer 0 => 1 map 0
again 1 1 fold 0 => error 7
work 0 9 => ok
work 1 9 => ok
offer 0 => 1 map 1
work 0 9 => ok
out 1 => error 7
offer 0 => 1 map 2
work 0 9 => ok
offer 1 => 1 fold 0
work 1 9 => ok
offer 0 => 1 fold 1
work 0 9 => ok
offer 0 => error 5
work 0 9 => ok
status 0 => 0 2/2 2/2 done
out 0 => 4:oats 3/|3:hay 2/
recover 3 => 2
status 0 => 0 0/2 2/2 done
status 1 => 1 0/3 1/2
offer 7 => error 5
fly high => error 4`

// Beginnings of sessions.
const (
	// hay: a job of two slices, and three records.
	hay = `rule count 2 => ok
rule each other it "the" key it val num 1 => ok
record the hay the oats => ok
record hay => ok
record oats oats the => ok
`
	// letters: a job of one slice, and two records.
	letters = `rule sum 1 => ok
rule each key it val num 1 => ok
record b a => ok
record a => ok
`
	// wide: a floor on which one queue may have all slots.
	wide = `floor 2 2 1 12 => ok
`
)

// run lines that are not too many.
func run(t *testing.T, lines []string) []string {
	t.Helper()
	told, err := console.Run(lines)
	if err != nil || len(told) != len(lines) {
		t.Fatalf("Run(%q) = %q, %v", lines, told, err)
	}
	return told
}

// split a session, of which each line has "=>" and an answer behind it.
func split(session string) (lines, answers []string) {
	for _, l := range strings.Split(strings.TrimSuffix(session, "\n"), "\n") {
		line, answer, _ := strings.Cut(l, " => ")
		lines, answers = append(lines, line), append(answers, answer)
	}
	return lines, answers
}

// tells: a session is answered as it says.
func tells(t *testing.T, session string) {
	t.Helper()
	lines, want := split(session)
	for i, got := range run(t, lines) {
		if got != want[i] {
			t.Errorf("line %d of %q: %s: %q, want %q", i, lines, lines[i], got, want[i])
		}
	}
}

// last answer to lines.
func last(t *testing.T, lines ...string) string {
	t.Helper()
	return run(t, lines)[len(lines)-1]
}

// J1, J2: the document's example.
func TestExample(t *testing.T) { tells(t, example) }

// J1: as many lines as may be, and one more.
func TestLines(t *testing.T) {
	for _, n := range []int{0, 1, api.MaxLines} {
		told, err := console.Run(slices.Repeat([]string{"clear"}, n))
		if !slices.Equal(told, slices.Repeat([]string{"ok"}, n)) || err != nil {
			t.Errorf("%d lines: %q, %v", n, told, err)
		}
	}
	for _, n := range []int{api.MaxLines + 1, 1000} {
		for _, line := range []string{"clear", "", strings.Repeat("x", 301)} {
			told, err := console.Run(slices.Repeat([]string{line}, n))
			if len(told) != 0 || err != api.ErrMany {
				t.Errorf("%d lines %q: %q, %v", n, line, told, err)
			}
		}
	}
	if told, err := console.Run(nil); len(told) != 0 || err != nil {
		t.Errorf("no lines: %q, %v", told, err)
	}
}

// J1: what is behind the blank is put behind the program, or the input, to the byte.
func TestTexts(t *testing.T) {
	head := []string{"rule sum 1", "rule key line val num 1"}
	for _, c := range []struct{ text, want string }{
		{"", "0: 1/"},
		{" ", "1:  1/"},
		{"a", "1:a 1/"},
		{" a", "2: a 1/"},
		{"a ", "2:a  1/"},
		{"a  b", "4:a  b 1/"},
		{"rule a", "6:rule a 1/"},
		{"\t\x00\xff\"\\", "5:\t\x00\xff\"\\ 1/"},
		{"a\nb", "1:a 1/1:b 1/"},
		{"\n", "0: 2/"},
		{"a/b|-", "5:a/b|- 1/"},
		{strings.Repeat("k", 21), "20:" + strings.Repeat("k", 20) + " 1/"},
	} {
		if got := last(t, slices.Concat(head, []string{"record " + c.text, "job"})...); got != c.want {
			t.Errorf("record %q: %q, want %q", c.text, got, c.want)
		}
	}
	tells(t, "rule sum 1 => ok\nrule key text \" a  \" val num 2 => ok\nrecord x => ok\njob => 4: a   2/")
	if got := last(t, "rule sum 1\nkey line val num 1", "record a", "job"); got != "1:a 1/" {
		t.Errorf("two lines by one: %q", got)
	}
}

// J1: a rule that isn't one is found when the job is asked for.
func TestRuleIsNotRead(t *testing.T) {
	for _, text := range []string{"", " ", "fly", "sum 1 ", " sum 1", "sum 1 early early", "sum 5"} {
		lines := []string{"rule " + text, "rule key line val num 1"}
		if got := run(t, append(lines, "job")); !slices.Equal(got, []string{"ok", "ok", "error 4"}) {
			t.Errorf("rule %q: %q", text, got)
		}
	}
}

// J1: clear takes the program and the input, not the floor, nor what it has.
func TestClear(t *testing.T) {
	tells(t, letters+`job => 1:a 2/1:b 1/
clear => ok
job => error 4
rule sum 1 => ok
rule key line val num 1 => ok
job => -
record x => ok
job => 1:x 1/
`+wide+`submit 0 1 => 0
clear => ok
clear => ok
submit 0 1 => error 4
job => error 4
offer 0 => 0 map 0
work 0 9 => ok
offer 0 => 0 fold 0
work 0 9 => ok
out 0 => 1:x 1/`)
}

// J1, H5: what a job is, with all folds, early or not, in slices of which some have no bytes.
func TestJob(t *testing.T) {
	for _, c := range []struct {
		name          string
		rules, record []string
		want          string
	}{
		{"sum", []string{"sum 1", "each key it val num 2"}, []string{"b a", "a"}, "1:a 4/1:b 2/"},
		{"sum early", []string{"sum 1 early", "each key it val num 2"}, []string{"b a", "a"}, "1:a 4/1:b 2/"},
		{"least", []string{"least 1", "key word 0 val many"}, []string{"a b c", "a", "b b"}, "1:a 1/1:b 2/"},
		{"greatest", []string{"greatest 1", "key word 0 val many"}, []string{"a b c", "a", "b b"}, "1:a 3/1:b 2/"},
		{"count", []string{"count 1 early", "each key it val num 7"}, []string{"a a", "b a"}, "1:a 3/1:b 1/"},
		{"below 0", []string{"least 1", "each key it val num -7"}, []string{"a"}, "1:a -7/"},
		{"two rules", []string{"sum 1", "key text \"all\" val num 1", "each same it \"a\" key it val num 1"}, []string{"a b a", "b"}, "1:a 2/3:all 2/"},
		{"no records", []string{"sum 1", "key line val num 1"}, nil, "-"},
		{"no records, slices", []string{"sum 4", "key line val num 1"}, nil, "-|-|-|-"},
		{"no pairs", []string{"sum 2", "same line \"a\" key line val num 1"}, []string{"b"}, "-|-"},
		{"some slices", []string{"count 4", "each key it val num 1"}, []string{"a b c", "a"}, "1:a 2/|1:b 1/|1:c 1/|-"},
		{"an empty key", []string{"count 1", "key word 3 val num 1"}, []string{"a"}, "0: 1/"},
		{"most records", []string{"count 1", "key line val num 1"}, slices.Repeat([]string{""}, 60), "0: 60/"},
		{"longest record", []string{"sum 1", "key text \"\" val len line"}, []string{strings.Repeat("x", 120)}, "0: 120/"},
	} {
		var lines []string
		for _, r := range c.rules {
			lines = append(lines, "rule "+r)
		}
		for _, r := range c.record {
			lines = append(lines, "record "+r)
		}
		lines = append(lines, "job")
		if got := last(t, lines...); got != c.want {
			t.Errorf("%s: %q, want %q", c.name, got, c.want)
		}
		if got := last(t, append(lines, "job")...); got != c.want {
			t.Errorf("%s, asked again: %q, want %q", c.name, got, c.want)
		}
	}
}

// J1, C3, E1: the errors of a job's text, then those of its input.
func TestJobErrors(t *testing.T) {
	long := `rule key text "` + strings.Repeat("x", 120) + `" val num 1`
	program := []string{"rule sum 1", "rule key line val num 1"}
	records := slices.Repeat([]string{"record a"}, 61)
	tooLong := "record " + strings.Repeat("x", 121)
	for _, c := range []struct {
		name  string
		lines []string
		want  string
	}{
		{"none", nil, "error 4"},
		{"no rules", program[:1], "error 4"},
		{"no head", program[1:], "error 4"},
		{"five rules", slices.Concat(program, slices.Repeat(program[1:], 4)), "error 4"},
		{"more than 800 bytes", slices.Concat(program[:1], slices.Repeat([]string{long}, 6)), "error 2"},
		{"a record too many", slices.Concat(program, records), "error 2"},
		{"a record too long", slices.Concat(program, []string{tooLong}), "error 1"},
		{"too many, one too long", slices.Concat(program, []string{tooLong}, records), "error 2"},
		{"a program that is none, and too many", slices.Concat(program[:1], records), "error 4"},
		{"a program that is none, and one too long", []string{tooLong}, "error 4"},
	} {
		if got := last(t, append(c.lines, "job")...); got != c.want {
			t.Errorf("%s: %q, want %q", c.name, got, c.want)
		}
		floor := append(c.lines, "floor 1 1 1 1", "submit 0 1")
		if got := last(t, floor...); got != c.want {
			t.Errorf("%s, submitted: %q, want %q", c.name, got, c.want)
		}
	}
}

// J1: a job is asked for with a floor as without one, and leaves it as it is.
func TestJobBesideFloor(t *testing.T) {
	tells(t, letters+wide+`submit 0 1 => 0
offer 0 => 0 map 0
record c => ok
job => 1:a 2/1:b 1/1:c 1/
status 0 => 0 0/2 0/1
has => 1
in 0 0 => 0 map 0
recover -1 => 1
job => 1:a 2/1:b 1/1:c 1/`)
}
