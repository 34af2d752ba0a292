package console_test

import (
	"slices"
	"strings"
	"testing"

	"threshfloor/api"
)

// onFloor: of each kind of line that asks for a floor one, with 1 for each number.
func onFloor() []string {
	return []string{"submit 1 1", "offer 1", "again 1 1 map 1", "again 1 1 fold 1", "work 1 1", "suspend 1 1", "kill 1 1", "crash 1", "in 1 1", "status 1", "out 1", "has", "recover 1"}
}

// offFloor: those that don't.
func offFloor() []string {
	return []string{"rule x", "record x", "clear", "job", "floor 1 1 1 1"}
}

// J2: while there is no floor, what asks for one is told so; after one that may not be there is still none.
func TestNoFloor(t *testing.T) {
	for _, line := range onFloor() {
		for _, before := range [][]string{nil, {"clear", "rule x", "record x", "job"}, {"floor 0 1 1 1"}, {"floor 1 1"}, {"floor 1"}} {
			if got := last(t, append(before, line)...); got != "error 7" {
				t.Errorf("%s behind %q: %q", line, before, got)
			}
		}
		if got := last(t, "floor 1 1 1 1", line); got == "error 7" || got == "error 4" {
			t.Errorf("%s, with a floor: %q", line, got)
		}
	}
	for _, line := range offFloor() {
		with, without := last(t, "floor 1 1 1 1", line), last(t, line)
		if with != without || without == "error 7" {
			t.Errorf("%s: %q, with a floor %q", line, without, with)
		}
	}
}

// none: lines that are none of a session's.
func none() []string {
	l := []string{"", " ", "\n", "fly", "fly high", "error 4", "ok", "Has", "HAS", "haste", "ha", "has\n", "has\t", "\thas", "rule", "record", "rules x", "Rule x", "rule\tx", "record\nx", " rule x", "clear x", "job 0", "has 1", "next", "next 0", "jobs", "journal", "-1", "0", "map", "fold",
		"again 1 1", "again 1 1 map", "again 1 1 1", "again 1 map 1", "again 1 1 x 1", "again 1 1 Map 1", "again 1 1 folds 1", "again 1 1  1", "again 1 map 1 1", "again map 1 1 1", "again 1 1 1 1", "again 1 1 0 1", "again 1 1 map map", "offer map", "status fold", "in 1 fold"}
	for _, line := range append(onFloor(), "clear", "job", "floor 1 1 1 1") {
		l = append(l, line+" ", " "+line, line+" x", line+"  ", line+"x", strings.ToUpper(line), line+"\n")
		if verb, words, ok := strings.Cut(line, " "); ok {
			l = append(l, verb, verb+" ", line+" 1", verb+"  "+words, verb+"\t"+words, verb+words)
		}
		if words := strings.Split(line, " "); len(words) > 2 {
			l = append(l, strings.Join(words[:len(words)-1], " "))
			words[1] += " "
			l = append(l, strings.Join(words, " "))
		}
	}
	return l
}

// J2: they can't be read, with a floor and without one; nothing changes.
func TestNone(t *testing.T) {
	for _, line := range none() {
		if got := last(t, line); got != "error 4" {
			t.Errorf("%q: %q", line, got)
		}
		leaves(t, line, "error 4")
	}
}

// busy: a session with a job that is done, one of which something is saved, and one that is begun.
const busy = `rule count 2 => ok
rule each key it val num 1 => ok
record a b => ok
record c => ok
record a => ok
floor 2 2 1 1 2 2 => ok
submit 0 9 => 0
offer 0 => 0 map 0
work 0 9 => ok
offer 0 => 0 fold 0
work 0 9 => ok
offer 0 => 0 fold 1
work 0 9 => ok
submit 1 3 => 1
offer 0 => 1 map 0
work 0 2 => ok
suspend 0 0 => ok
submit 0 2 => 2
offer 1 => 2 map 0
`

// look: what is told of that session, and of how it goes on until all is done.
const look = `job => 1:a 2/1:c 1/|1:b 1/
has => 1 0
status 0 => 0 1/1 2/2 done
status 1 => 1 0/1 0/2
status 2 => 0 0/2 0/2
status 3 => error 5
in 0 0 => error 7
in 0 1 => error 7
in 1 0 => 2 map 0
in 1 1 => error 7
out 0 => 1:a 2/1:c 1/|1:b 1/
offer 0 => 1 map 0
work 0 1 => ok
work 1 1 => ok
has => 1 0
status 1 => 1 1/1 0/2
status 2 => 0 0/2 0/2
offer 0 => 1 fold 0
work 0 9 => ok
offer 0 => 1 fold 1
work 0 9 => ok
work 1 1 => ok
offer 0 => 2 map 1
work 0 9 => ok
offer 0 => 2 fold 0
work 0 9 => ok
offer 0 => 2 fold 1
work 0 9 => ok
offer 0 => error 5
out 1 => 1:a 2/1:c 1/|1:b 1/
out 2 => 1:a 2/1:c 1/|1:b 1/
recover -1 => 3
status 0 => 0 0/1 2/2 done
status 1 => 1 0/1 2/2 done
status 2 => 0 0/2 2/2 done
job => 1:a 2/1:c 1/|1:b 1/
`

// leaves: to a line in a busy session an error is told, and what comes after it is as if it weren't there.
func leaves(t *testing.T, line, want string) {
	t.Helper()
	first, _ := split(busy)
	rest, told := split(look)
	got := run(t, slices.Concat(first, []string{line}, rest))[len(first):]
	if got[0] != want {
		t.Errorf("%q: %q, want %q", line, got[0], want)
	}
	if !slices.Equal(got[1:], told) {
		t.Errorf("behind %q: %q, want %q", line, got[1:], told)
	}
}

// J1: that session, with nothing between.
func TestBusy(t *testing.T) { tells(t, busy+look) }

// J2: with an error of a layer nothing changes.
func TestErrorsLeave(t *testing.T) {
	for _, c := range []struct{ line, want string }{
		{"floor 0 1 1 1", "error 1"},
		{"floor 1 1", "error 2"},
		{"submit 2 1", "error 5"},
		{"submit 0 0", "error 1"},
		{"submit 0 61", "error 1"},
		{"offer 2", "error 5"},
		{"offer -1", "error 5"},
		{"again 2 2 map 0", "error 5"},
		{"again 0 3 map 0", "error 5"},
		{"again 0 2 map 1", "error 7"},
		{"again 0 2 map 0", "error 8"},
		{"again 0 0 map 0", "error 7"},
		{"again 0 0 fold 0", "error 7"},
		{"again 0 1 fold 0", "error 7"},
		{"work 2 9", "error 5"},
		{"work -1 9", "error 5"},
		{"suspend 0 1", "error 7"},
		{"suspend 0 2", "error 5"},
		{"kill 1 1", "error 7"},
		{"kill 2 0", "error 5"},
		{"crash 2", "error 5"},
		{"crash -1", "error 5"},
		{"in 0 1", "error 7"},
		{"in 0 2", "error 5"},
		{"status 3", "error 5"},
		{"out 3", "error 5"},
		{"out 1", "error 7"},
		{"out 2", "error 7"},
		{strings.Repeat("x", 301), "error 4"},
		{"rule " + strings.Repeat("x", 296), "error 4"},
		{"record " + strings.Repeat("x", 294), "error 4"},
	} {
		leaves(t, c.line, c.want)
	}
}

// J1, J2: numbers from -1 to 999, as they are told, wherever one stands.
func TestNumbers(t *testing.T) {
	wrong := []string{"-2", "1000", "-1000", "9999", "00", "01", "007", "-01", "-0", "+0", "+1", "--1", "-", "1-", "1.0", "1e2", "0x1", "1_0", "x", "1x", "１", "", "9223372036854775807", "9223372036854775808", "-9223372036854775808", "99999999999999999999999999", "18446744073709551616"}
	right := []string{"-1", "0", "1", "9", "10", "99", "100", "999"}
	for _, line := range append(onFloor(), "floor 1 1 1 1") {
		words := strings.Split(line, " ")
		for i, w := range words {
			if w != "1" {
				continue
			}
			for _, n := range wrong {
				words[i] = n
				for _, before := range []string{"floor 1 1 1 1", "clear"} {
					if got := last(t, before, strings.Join(words, " ")); got != "error 4" {
						t.Errorf("%q: %q", words, got)
					}
				}
			}
			for _, n := range right {
				words[i] = n
				if got := last(t, "floor 1 1 1 1", strings.Join(words, " ")); got == "error 4" && (words[0] != "submit" || words[1] != "0") {
					t.Errorf("%q: %q", words, got)
				}
			}
			words[i] = "1"
		}
	}
}

// J2: as many bytes as a line may have, and one more, whatever it says.
func TestMaxLine(t *testing.T) {
	for _, begin := range []string{"rule ", "record "} {
		most := begin + strings.Repeat("x", api.MaxLine-len(begin))
		if got := last(t, most); got != "ok" {
			t.Errorf("%d bytes of %s: %q", len(most), begin, got)
		}
		if got := last(t, most+"x"); got != "error 4" {
			t.Errorf("%d bytes of %s: %q", len(most)+1, begin, got)
		}
	}
	queues := strings.Repeat(" 1", 146)
	for _, c := range []struct{ line, want string }{
		{"floor -1 1" + queues[:288], "error 2"},
		{"floor 1 10" + queues[:290], "error 4"},
		{"floor 999 1" + queues, "error 4"},
		{"floor 1 1" + queues[:288], "error 2"},
		{"floor 1 1" + queues, "error 4"},
		{strings.Repeat("x", 300), "error 4"},
		{strings.Repeat("x", 301), "error 4"},
		{strings.Repeat(" ", 100000), "error 4"},
		{"rule " + strings.Repeat("x", 100000), "error 4"},
		{"has" + strings.Repeat(" ", 298), "error 4"},
	} {
		if got := last(t, c.line); got != c.want {
			t.Errorf("%d bytes, %.20q..: %q, want %q", len(c.line), c.line, got, c.want)
		}
	}
	tells(t, letters+"record "+strings.Repeat("é", 147)+" => error 4\nrecord "+strings.Repeat("é", 60)+" => ok\njob => 1:a 2/1:b 1/20:"+strings.Repeat("é", 10)+" 1/")
}
