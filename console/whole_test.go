package console_test

import (
	"slices"
	"strconv"
	"strings"
	"testing"

	"threshfloor/api"
	"threshfloor/console"
	"threshfloor/floor"
)

// die: numbers that look drawn, the same each time.
type die uint64

func (d *die) n(most int) int {
	*d = *d*6364136223846793005 + 1442695040888963407
	return int(uint64(*d>>33) % uint64(most))
}

// drawn line of a session that has a floor.
func drawn(d *die) string {
	n := func() string { return " " + strconv.Itoa(d.n(4)-d.n(2)*d.n(2)) }
	switch d.n(14) {
	case 0, 1, 2:
		return "offer" + n()
	case 3, 4, 5:
		return "work" + n() + n()
	case 6:
		return []string{"suspend", "kill", "in"}[d.n(3)] + n() + n()
	case 7:
		return "again" + n() + n() + []string{" map", " fold"}[d.n(2)] + n()
	case 8:
		return []string{"status", "out"}[d.n(2)] + n()
	case 9:
		return []string{"has", "crash" + n()}[d.n(2)]
	case 10:
		return "submit" + n() + n()
	case 11:
		return "record " + []string{"a b", "b", "", "c a c"}[d.n(4)]
	case 12:
		return "recover " + strconv.Itoa(d.n(60)-1)
	}
	return []string{"fly", "offer", "work 1", "has 1", ""}[d.n(5)]
}

// plain: a floor that is asked directly, word by word.
type plain struct {
	f              *floor.Floor
	queues         []api.Queue
	program, input string
}

// word of an answer, or its error.
func word(told string, err error) string {
	if err == nil {
		return told
	}
	return strings.TrimPrefix(err.Error(), "threshfloor: ")
}

// task as it is told.
func task(t api.Task, err error) string {
	return word(strconv.Itoa(t.Job)+map[bool]string{false: " map ", true: " fold "}[t.Fold]+strconv.Itoa(t.Index), err)
}

// answer of a floor that is asked directly to a drawn line.
func (p *plain) answer(line string) string {
	w := strings.Split(line, " ")
	var n [4]int
	for i := 1; i < len(w) && i <= len(n); i++ {
		n[i-1], _ = strconv.Atoi(w[i])
	}
	at := api.Place{Worker: n[0], Slot: n[1]}
	switch {
	case w[0] == "record":
		p.input += strings.TrimPrefix(line, "record ") + "\n"
		return "ok"
	case w[0] == "has" && len(w) == 1:
		var l []string
		for _, k := range p.f.Has() {
			l = append(l, strconv.Itoa(k))
		}
		return strings.Join(l, " ")
	case len(w) == 1:
		return "error 4"
	case w[0] == "offer":
		return task(p.f.Offer(n[0]))
	case w[0] == "crash":
		return word("ok", p.f.Crash(n[0]))
	case w[0] == "status":
		s, err := p.f.Status(n[0])
		told := strconv.Itoa(s.Queue) + " " + strconv.Itoa(s.Mapped) + "/" + strconv.Itoa(s.Parts) + " " + strconv.Itoa(s.Out) + "/" + strconv.Itoa(s.Slices)
		if s.Done {
			told += " done"
		}
		return word(told, err)
	case w[0] == "out":
		l, err := p.f.Out(n[0])
		for i := range l {
			if l[i] == "" {
				l[i] = "-"
			}
		}
		return word(strings.ReplaceAll(strings.Join(l, "|"), "\n", "/"), err)
	case w[0] == "recover":
		log := p.f.Journal()
		if n[0] > 0 {
			log = log[:max(0, len(log)-n[0])]
		}
		f, err := floor.Recover(log, p.queues, 3, 2)
		p.f = f
		return word(strconv.Itoa(f.Jobs()), err)
	case len(w) == 2:
		return "error 4"
	case w[0] == "submit":
		k, err := p.f.Submit(n[0], p.program, p.input, n[1])
		return word(strconv.Itoa(k), err)
	case w[0] == "work":
		return word("ok", p.f.Work(n[0], n[1]))
	case w[0] == "suspend":
		return word("ok", p.f.Suspend(at))
	case w[0] == "kill":
		return word("ok", p.f.Kill(at))
	case w[0] == "in":
		return task(p.f.In(at))
	}
	return word("ok", p.f.Again(n[0], api.Task{Job: n[1], Fold: w[3] == "fold", Index: n[3]}))
}

// J1, J2: a session answers as the floor does that is asked directly.
func TestAsTheFloor(t *testing.T) {
	d := die(1)
	begin := []string{"rule count 2", "rule each key it val num 1", "floor 3 2 1 4 2 3"}
	for range 300 {
		lines := slices.Clone(begin)
		for len(lines) < api.MaxLines {
			lines = append(lines, drawn(&d))
		}
		p := plain{queues: []api.Queue{{Weight: 1, Cap: 4}, {Weight: 2, Cap: 3}}, program: "count 2\neach key it val num 1\n"}
		p.f, _ = floor.New(p.queues, 3, 2)
		got := run(t, lines)
		for i := len(begin); i < len(lines); i++ {
			if want := p.answer(lines[i]); got[i] != want {
				t.Fatalf("line %d of %q: %s: %q, want %q", i, lines, lines[i], got[i], want)
			}
		}
	}
}

// W1, W2: whatever happens to a job, by whomever it is done, it is what is told of it alone, also of a floor that is made anew.
func TestWhateverHappens(t *testing.T) {
	d := die(2)
	programs := [][]string{
		{"rule count 2", "rule each key it val num 1"},
		{"rule sum 1 early", "rule key word 0 val many"},
		{"rule least 3", "rule each other it \"a\" key it val len line"},
		{"rule greatest 4 early", "rule key line val len line", "rule each key cut 1 it val num -2"},
	}
	for range 150 {
		lines := slices.Clone(programs[d.n(len(programs))])
		for range d.n(5) {
			lines = append(lines, "record "+[]string{"a b a", "the a", "b", ""}[d.n(4)])
		}
		lines = append(lines, "floor "+strconv.Itoa(1+d.n(4))+" "+strconv.Itoa(1+d.n(3))+" 1 12", "submit 0 "+strconv.Itoa(2+d.n(3)))
		for range 35 {
			if l := drawn(&d); !strings.HasPrefix(l, "record") && !strings.HasPrefix(l, "submit") && !strings.HasPrefix(l, "recover") {
				lines = append(lines, l)
			}
		}
		if d.n(3) == 0 {
			lines = append(lines, "recover 0")
		}
		for w := range api.MaxWorkers {
			lines = append(lines, "work "+strconv.Itoa(w)+" 99")
		}
		for len(lines) < api.MaxLines-3 {
			lines = append(lines, "offer 0", "work 0 99")
		}
		told := run(t, append(lines, "job", "out 0"))
		if alone, out := told[len(told)-2], told[len(told)-1]; alone != out {
			t.Fatalf("%q: out is %s, alone it is %s", lines, out, alone)
		}
	}
}

// Z2: lines are neither written into nor kept, what stands behind them isn't read, and sessions know nothing of each other.
func TestLists(t *testing.T) {
	long, _ := split(busy + look + "fly => error 4\nfly => error 4")
	lines := long[: len(long)-2 : len(long)]
	before := slices.Clone(long)
	first := run(t, lines)
	if !slices.Equal(long, before) {
		t.Errorf("%q were handed in, now they are %q", before, long)
	}
	want := slices.Clone(first)
	run(t, []string{"clear", "rule x", "floor 1 1 1 1"})
	second := run(t, lines)
	for i := range first {
		first[i] = "written"
	}
	clear(long)
	if !slices.Equal(second, want) || !slices.Equal(run(t, before[:len(before)-2]), want) {
		t.Error("the same lines are answered otherwise")
	}
	if got := last(t, "job"); got != "error 4" {
		t.Errorf("a session that begins has a job: %s", got)
	}
}

// shaped: is it an answer that a session may give?
func shaped(answer string) bool {
	if n, ok := strings.CutPrefix(answer, "error "); ok {
		return len(n) == 1 && strings.Contains("124578", n)
	}
	return answer != "" && !strings.Contains(answer, "\n")
}

// Z1: no lines make it panic; to each one there is an answer.
func FuzzRun(f *testing.F) {
	for _, s := range []string{example, busy + look, outOfOne + "recover 999\nrecover -1", wide} {
		lines, _ := split(s)
		f.Add(strings.Join(lines, "\n"))
	}
	f.Add(strings.Join(none()[:70], "\n"))
	f.Fuzz(func(t *testing.T, s string) {
		lines := strings.Split(s, "\n")
		told, err := console.Run(lines)
		if len(lines) > api.MaxLines {
			if len(told) != 0 || err != api.ErrMany {
				t.Fatalf("%d lines: %q, %v", len(lines), told, err)
			}
			return
		}
		if err != nil || len(told) != len(lines) {
			t.Fatalf("%q: %q, %v", lines, told, err)
		}
		for i, a := range told {
			if !shaped(a) {
				t.Fatalf("%q: %q", lines[i], a)
			}
		}
	})
}
