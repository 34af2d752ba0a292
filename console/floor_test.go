package console_test

import (
	"strconv"
	"strings"
	"testing"
)

// J1, H1: bounds of a floor: of queues first, then of workers, then of slots.
func TestFloor(t *testing.T) {
	for _, c := range []struct{ line, want string }{
		{"floor 1 1 1 0", "ok"},
		{"floor 4 3 9 12", "ok"},
		{"floor 1 1 1 1 2 2 3 3 4 4", "ok"},
		{"floor 1 1", "error 2"},
		{"floor 9 9", "error 2"},
		{"floor 1 1 1 1 2 2 3 3 4 4 5 5", "error 2"},
		{"floor 1 1 0 1", "error 1"},
		{"floor 1 1 10 1", "error 1"},
		{"floor 1 1 1 -1", "error 1"},
		{"floor 1 1 1 13", "error 1"},
		{"floor 1 1 1 1 0 1", "error 1"},
		{"floor 1 1 1 1 1 13", "error 1"},
		{"floor 0 1 1 1", "error 1"},
		{"floor 5 1 1 1", "error 1"},
		{"floor -1 1 1 1", "error 1"},
		{"floor 1 0 1 1", "error 1"},
		{"floor 1 4 1 1", "error 1"},
		{"floor 999 999 999 999", "error 1"},
		{"floor", "error 4"},
		{"floor ", "error 4"},
		{"floor 1", "error 4"},
		{"floor 1 1 1", "error 4"},
		{"floor 1 1 1 1 1", "error 4"},
		{"floor 1 1 1 x", "error 4"},
		{"floor 1 1 1 1000", "error 4"},
	} {
		if got := last(t, c.line); got != c.want {
			t.Errorf("%s: %q, want %q", c.line, got, c.want)
		}
		after := "error 7"
		if c.want == "ok" {
			after = "0"
		}
		if got := last(t, c.line, "recover 0"); got != after {
			t.Errorf("%s, recover 0: %q, want %q", c.line, got, after)
		}
	}
}

// J1: workers, then slots, then of each queue what it weighs and how many slots it may have.
func TestFloorNumbers(t *testing.T) {
	tells(t, letters+`floor 3 2 1 3 9 1 => ok
has => 0 0
in 2 1 => error 7
in 3 0 => error 5
in 0 2 => error 5
submit 0 1 => 0
submit 1 1 => 1
offer 0 => 0 map 0
offer 0 => 1 map 0
offer 0 => error 8
offer 1 => 0 map 1
offer 2 => error 5
has => 2 1
again 1 0 map 1 => ok
again 2 0 map 1 => error 8
has => 3 1`)
}

// J1, J2: a floor that may be is a new one; one that may not be leaves the one that there was.
func TestFloorAnew(t *testing.T) {
	tells(t, letters+`floor 1 1 1 1 => ok
submit 0 1 => 0
floor 0 1 1 1 => error 1
floor 1 1 => error 2
floor 1 1 1 => error 4
status 0 => 0 0/2 0/1
recover -1 => 1
in 0 0 => error 7
in 1 0 => error 5
floor 2 1 1 1 2 2 => ok
status 0 => error 5
in 1 0 => error 7
has => 0 0
recover -1 => 0
submit 1 2 => 0
status 0 => 1 0/1 0/1`)
}

// J1, H2: a job is submitted as its text and its input are then, to a queue, in parts of so many records.
func TestSubmit(t *testing.T) {
	tells(t, letters+`floor 1 1 1 1 1 1 => ok
submit 0 1 => 0
submit 1 2 => 1
submit 1 60 => 2
record c => ok
submit 0 1 => 3
submit 0 2 => 4
status 0 => 0 0/2 0/1
status 1 => 1 0/1 0/1
status 2 => 1 0/1 0/1
status 3 => 0 0/3 0/1
status 4 => 0 0/2 0/1
submit 2 1 => error 5
submit -1 1 => error 5
submit 0 0 => error 1
submit 0 -1 => error 1
submit 0 61 => error 1
submit 0 999 => error 1
rule => error 4
rule x => ok
submit 0 0 => error 4
submit 2 0 => error 5
status 5 => error 5
clear => ok
rule sum 2 => ok
rule key line val num 1 => ok
submit 1 1 => 5
status 5 => 1 0/0 0/2
submit 1 1 => error 2
submit 1 0 => error 2
submit 2 1 => error 5
recover -1 => 6`)
}

// J1, H3: what is offered, and to whom it is not.
func TestOffer(t *testing.T) {
	tells(t, letters+`floor 2 1 1 12 => ok
offer 0 => error 5
submit 0 1 => 0
offer -1 => error 5
offer 2 => error 5
offer 0 => 0 map 0
offer 0 => error 8
offer 1 => 0 map 1
work 0 1 => ok
work 1 1 => ok
offer 1 => 0 fold 0
offer 0 => error 5
work 1 1 => ok
work 1 1 => ok
offer 1 => error 5
status 0 => 0 2/2 1/1 done`)
}

// J1, H3: a task is tried once more where there is room, whatever it does.
func TestAgain(t *testing.T) {
	tells(t, hay+`floor 3 1 1 2 => ok
submit 0 2 => 0
offer 0 => 0 map 0
again 1 0 map 1 => error 7
again 1 0 map 2 => error 5
again 1 0 map -1 => error 5
again 1 1 map 0 => error 5
again 1 -1 map 0 => error 5
again 1 0 fold 2 => error 5
again 1 0 fold 0 => error 7
again 3 0 map 0 => error 5
again -1 0 map 0 => error 5
again 0 0 map 0 => error 8
again 0 9 map 9 => error 8
again 1 0 map 0 => ok
in 1 0 => 0 map 0
again 2 0 map 0 => error 8
has => 2
work 1 2 => ok
status 0 => 0 1/2 0/2
work 0 2 => ok
status 0 => 0 1/2 0/2
has => 0
again 0 0 map 0 => error 7
offer 0 => 0 map 1
again 2 0 map 1 => ok
in 2 0 => 0 map 1
work 2 1 => ok
work 0 1 => ok
offer 0 => 0 fold 0
offer 1 => 0 fold 1
kill 0 0 => ok
again 2 0 fold 1 => ok
in 2 0 => 0 fold 1
again 0 0 fold 0 => error 7
work 2 9 => ok
status 0 => 0 2/2 1/2
work 1 9 => ok
status 0 => 0 2/2 1/2`)
}

// J1, H4: work goes on by so many records, or keys, in each slot of the worker.
func TestWork(t *testing.T) {
	tells(t, letters+`record b => ok
floor 2 2 1 12 => ok
submit 0 2 => 0
offer 0 => 0 map 0
offer 0 => 0 map 1
work 2 1 => error 5
work -1 1 => error 5
work 0 0 => ok
work 0 -1 => ok
work 1 9 => ok
status 0 => 0 0/2 0/1
work 0 1 => ok
status 0 => 0 1/2 0/1
in 0 0 => 0 map 0
in 0 1 => error 7
work 0 1 => ok
status 0 => 0 2/2 0/1
offer 1 => 0 fold 0
work 1 1 => ok
out 0 => error 7
work 1 1 => ok
out 0 => 1:a 2/1:b 2/`)
}

// J1, H4: what is suspended goes on where it stood, what is killed at its beginning; a slot of a worker is meant.
func TestSuspendKill(t *testing.T) {
	tells(t, hay+wide+`submit 0 3 => 0
suspend 0 0 => error 7
kill 0 0 => error 7
suspend 2 0 => error 5
kill 2 0 => error 5
suspend 0 2 => error 5
kill -1 0 => error 5
suspend 0 -1 => error 5
offer 1 => 0 map 0
again 1 0 map 0 => ok
in 1 1 => 0 map 0
work 1 2 => ok
suspend 0 1 => error 7
kill 0 1 => error 7
kill 1 0 => ok
in 1 0 => error 7
in 1 1 => 0 map 0
suspend 1 1 => ok
in 1 1 => error 7
has => 0
offer 0 => 0 map 0
work 0 1 => ok
status 0 => 0 1/1 0/2
crash 0 => ok
offer 0 => 0 map 0
work 0 2 => ok
kill 0 0 => ok
offer 0 => 0 map 0
work 0 2 => ok
status 0 => 0 0/1 0/2
work 0 1 => ok
status 0 => 0 1/1 0/2`)
}

// J1, H4: who falls loses what it had mapped, and what it had begun.
func TestCrash(t *testing.T) {
	tells(t, hay+wide+`submit 0 1 => 0
crash 2 => error 5
crash -1 => error 5
offer 0 => 0 map 0
work 0 1 => ok
offer 1 => 0 map 1
work 1 1 => ok
offer 0 => 0 map 2
has => 1
status 0 => 0 2/3 0/2
crash 0 => ok
has => 0
in 0 0 => error 7
status 0 => 0 1/3 0/2
crash 0 => ok
status 0 => 0 1/3 0/2
offer 0 => 0 map 0
crash 1 => ok
status 0 => 0 0/3 0/2
in 0 0 => 0 map 0`)
}

// J1: a worker's slot is told with the task in it.
func TestIn(t *testing.T) {
	tells(t, letters+wide+`submit 0 1 => 0
offer 1 => 0 map 0
offer 1 => 0 map 1
in 1 0 => 0 map 0
in 1 1 => 0 map 1
in 0 1 => error 7
in 2 0 => error 5
in 1 2 => error 5
in -1 0 => error 5
in 0 -1 => error 5
in 999 999 => error 5`)
}

// J1, H5: how a job stands, and, when it is done, what is out of it.
func TestStatusOut(t *testing.T) {
	tells(t, hay+`rule each key text "x" val num 1 => ok
floor 1 1 1 1 2 1 => ok
status 0 => error 5
out 0 => error 5
submit 1 2 => 0
status 0 => 1 0/2 0/2
out 0 => error 7
status 1 => error 5
out 1 => error 5
status -1 => error 5
out -1 => error 5
offer 0 => 0 map 0
work 0 9 => ok
status 0 => 1 1/2 0/2
offer 0 => 0 map 1
work 0 9 => ok
status 0 => 1 2/2 0/2
offer 0 => 0 fold 0
work 0 9 => ok
status 0 => 1 2/2 1/2
out 0 => error 7
offer 0 => 0 fold 1
work 0 9 => ok
status 0 => 1 2/2 2/2 done
out 0 => 4:oats 3/|3:hay 2/1:x 8/
job => 4:oats 3/|3:hay 2/1:x 8/`)
}

// J1: slices that have no bytes are told, too.
func TestOutWithoutBytes(t *testing.T) {
	tells(t, `rule sum 3 => ok
rule each key it val num 1 => ok
floor 1 3 1 12 => ok
submit 0 1 => 0
status 0 => 0 0/0 0/3
offer 0 => 0 fold 0
offer 0 => 0 fold 1
offer 0 => 0 fold 2
work 0 0 => ok
status 0 => 0 0/0 3/3 done
out 0 => -|-|-
record a => ok
submit 0 1 => 1
offer 0 => 1 map 0
work 0 1 => ok
offer 0 => 1 fold 0
offer 0 => 1 fold 1
offer 0 => 1 fold 2
work 0 9 => ok
out 1 => -|1:a 1/|-
job => -|1:a 1/|-`)
}

// J1: of each queue how many slots it has.
func TestHas(t *testing.T) {
	tells(t, letters+`floor 4 3 9 12 => ok
has => 0
floor 4 3 1 1 1 12 9 12 2 12 => ok
has => 0 0 0 0
submit 3 1 => 0
submit 1 2 => 1
offer 0 => 1 map 0
has => 0 1 0 0
offer 3 => 0 map 0
offer 3 => 0 map 1
has => 0 1 0 2
again 1 0 map 1 => ok
again 1 0 map 1 => ok
has => 0 1 0 4
kill 3 0 => ok
has => 0 1 0 3`)
}

// outOfOne: a session in which one job is done, and one isn't; behind it the journal has three entries.
const outOfOne = letters + `floor 2 1 1 1 3 2 => ok
submit 1 2 => 0
offer 0 => 0 map 0
work 0 9 => ok
offer 0 => 0 fold 0
work 0 9 => ok
submit 0 1 => 1
offer 1 => 1 map 0
`

// J1, H6: a floor that is made anew has the same queues, workers and slots, its jobs, and what is out of them.
func TestRecover(t *testing.T) {
	tells(t, outOfOne+`has => 1 0
recover 0 => 2
has => 0 0
in 1 0 => error 7
in 2 0 => error 5
in 1 1 => error 5
status 0 => 1 0/1 1/1 done
status 1 => 0 0/2 0/1
out 0 => 1:a 2/1:b 1/
job => 1:a 2/1:b 1/
offer 0 => 1 map 0
offer 1 => error 5
work 0 9 => ok
offer 1 => 1 map 1
work 1 9 => ok
offer 1 => 1 fold 0
work 1 9 => ok
out 1 => 1:a 2/1:b 1/
submit 1 1 => 2
recover -1 => 3
status 0 => 1 0/1 1/1 done
status 1 => 0 0/2 1/1 done
status 2 => 1 0/2 0/1`)
}

// J1: of a journal as many bytes are lost as are told; with one byte of an entry it is lost; below 0 none is, and of more than there are all.
func TestRecoverCut(t *testing.T) {
	at := func(lost int) string { return "recover " + strconv.Itoa(lost) + " => " }
	for lost := range 70 {
		if lost == 0 {
			tells(t, outOfOne+at(lost)+"2\n"+at(-1)+"2")
			continue
		}
		tells(t, outOfOne+at(lost)+"1\n"+at(0)+"1\nstatus 1 => error 5\nsubmit 0 1 => 1")
	}
	tells(t, outOfOne+at(999)+"0\n"+at(0)+"0\n"+at(1)+"0\nstatus 0 => error 5\nsubmit 0 1 => 0\n"+at(-1)+"1")
	tells(t, wide+at(0)+"0\n"+at(-1)+"0\n"+at(1)+"0")
}

// J1, H6: a journal is cut byte by byte: jobs and slices are lost from its end on, one after the other.
func TestRecoverByteByByte(t *testing.T) {
	lines, _ := split(outOfOne)
	var seen []string
	for lost := range 250 {
		got := run(t, append(lines, "recover "+strconv.Itoa(lost), "status 0"))
		now := strings.Join(got[len(lines):], ", ")
		if len(seen) == 0 || seen[len(seen)-1] != now {
			seen = append(seen, now)
		}
	}
	want := "2, 1 0/1 1/1 done; 1, 1 0/1 1/1 done; 1, 1 0/1 0/1; 0, error 5"
	if got := strings.Join(seen, "; "); got != want {
		t.Errorf("%s, want %s", got, want)
	}
}
