package floor_test

import (
	"math"
	"slices"
	"strconv"
	"strings"
	"testing"

	"threshfloor/api"
	"threshfloor/floor"
	"threshfloor/journal"
)

// session: the acts on a floor of the document's example, and what they answer.
const session = `submit 0 2 => 0
submit 1 1 => 1
has => 0 0
offer 0 => 0 map 0
offer 1 => 1 map 0
work 0 1 => ok
in 0 0 => 0 map 0
offer 0 => error 8
suspend 0 0 => ok
status 0 => 0 0/2 0/2
status 1 => 1 0/3 0/2
offer 0 => 0 map 0
work 0 9 => ok
work 1 9 => ok
offer 0 => 0 map 1
offer 1 => 1 map 1
work 0 9 => ok
work 1 9 => ok
crash 1 => ok
status 1 => 1 0/3 0/2
offer 0 => 0 fold 0
work 0 9 => ok
offer 1 => 0 fold 1
work 1 9 => ok
offer 0 => 1 map 0
again 1 1 fold 0 => error 7
work 0 9 => ok
work 1 9 => ok
offer 0 => 1 map 1
work 0 9 => ok
out 1 => error 7
offer 0 => 1 map 2
work 0 9 => ok
offer 1 => 1 fold 0
work 1 9 => ok
offer 0 => 1 fold 1
work 0 9 => ok
offer 0 => error 5
work 0 9 => ok
status 0 => 0 2/2 2/2 done
out 0 => 4:oats 3/|3:hay 2/
recover 3 => 2
status 0 => 0 0/2 2/2 done
status 1 => 1 0/3 1/2
offer 7 => error 5`

// answer of an act: what is told, or its error.
func answer(told string, err error) string {
	if e, ok := err.(api.Errno); ok {
		return "error " + strconv.Itoa(int(e))
	}
	return told
}

// taskText of a task.
func taskText(t api.Task) string {
	kind := " map "
	if t.Fold {
		kind = " fold "
	}
	return strconv.Itoa(t.Job) + kind + strconv.Itoa(t.Index)
}

// act of the session on a floor.
func act(h *hall, line string) string {
	w := strings.Fields(line)
	n := []int{0, 0, 0, 0}
	for i := range min(len(w)-1, len(n)) {
		n[i], _ = strconv.Atoi(w[i+1])
	}
	switch w[0] {
	case "submit":
		k, err := h.f.Submit(n[0], two, hay, n[1])
		return answer(strconv.Itoa(k), err)
	case "has":
		var l []string
		for _, k := range h.f.Has() {
			l = append(l, strconv.Itoa(k))
		}
		return strings.Join(l, " ")
	case "offer":
		t, err := h.f.Offer(n[0])
		return answer(taskText(t), err)
	case "again":
		return answer("ok", h.f.Again(n[0], api.Task{Job: n[1], Fold: w[3] == "fold", Index: n[3]}))
	case "work":
		return answer("ok", h.f.Work(n[0], n[1]))
	case "suspend":
		return answer("ok", h.f.Suspend(at(n[0], n[1])))
	case "crash":
		return answer("ok", h.f.Crash(n[0]))
	case "in":
		t, err := h.f.In(at(n[0], n[1]))
		return answer(taskText(t), err)
	case "status":
		s, err := h.f.Status(n[0])
		return answer(statusText(s, nil), err)
	case "out":
		l, err := h.f.Out(n[0])
		return answer(strings.ReplaceAll(strings.Join(l, "|"), "\n", "/"), err)
	}
	log := h.f.Journal()
	*h = recovered(h.T, log[:len(log)-n[0]], []api.Queue{{Weight: 1, Cap: 1}, {Weight: 3, Cap: 2}}, 2, 1)
	return strconv.Itoa(h.f.Jobs())
}

// The document's example.
func TestSession(t *testing.T) {
	h := open(t, []api.Queue{{Weight: 1, Cap: 1}, {Weight: 3, Cap: 2}}, 2, 1)
	for _, l := range strings.Split(session, "\n") {
		line, want, _ := strings.Cut(l, " => ")
		if got := act(&h, line); got != want {
			t.Fatalf("%s: %s, want %s", line, got, want)
		}
	}
}

// die: numbers that look drawn, the same each time.
type die uint64

func (d *die) n(most int) int {
	*d = *d*6364136223846793005 + 1442695040888963407
	return int(uint64(*d>>33) % uint64(most))
}

// happen: something, to a floor; where it is refused, nothing.
func happen(d *die, f *floor.Floor) {
	p := at(d.n(api.MaxWorkers), d.n(api.MaxSlots))
	switch d.n(12) {
	case 0:
		_ = f.Suspend(p)
	case 1:
		_ = f.Kill(p)
	case 2:
		if d.n(3) == 0 {
			_ = f.Crash(p.Worker)
		}
	case 3, 4:
		_ = f.Again(p.Worker, api.Task{Job: d.n(3), Fold: d.n(2) == 0, Index: d.n(4)})
	case 5, 6, 7:
		_ = f.Work(p.Worker, d.n(4)-1)
	default:
		_, _ = f.Offer(p.Worker)
	}
}

// W1, W2, W3, W4: whatever happens, what is out stays as it is, queues have no more than they may, and all jobs come to be done, as one alone does them.
func TestWhateverHappens(t *testing.T) {
	d := die(3)
	l, in := programs(), inputs()
	for range 150 {
		queues := []api.Queue{{Weight: 1 + d.n(9), Cap: 1 + d.n(4)}, {Weight: 1 + d.n(9), Cap: 1 + d.n(12)}}
		h := open(t, queues, 1+d.n(api.MaxWorkers), 1+d.n(api.MaxSlots))
		var want [][]string
		for range 3 {
			program, input := l[d.n(len(l))], in[d.n(len(in))]
			h.submit(d.n(2), program, input, 1+d.n(4))
			want = append(want, alone(t, program, input))
		}
		log := ""
		for range 120 {
			happen(&d, h.f)
			for q, n := range h.f.Has() {
				if n > queues[q].Cap {
					t.Fatalf("queue %d of %v has %d slots", q, queues, n)
				}
			}
			if now := h.f.Journal(); !strings.HasPrefix(now, log) {
				t.Fatalf("%q was in the journal, %q is", log, now)
			} else {
				log = now
			}
			for _, e := range journal.Parse(log) {
				if e.Kind == "out" && e.Texts[0] != want[e.N[0]][e.N[1]] {
					t.Fatalf("%v is out, %q are wanted", e, want)
				}
			}
		}
		if d.n(4) == 0 {
			h = recovered(t, log, queues, 1, 1)
		}
		for range 100 {
			for w := range api.MaxWorkers {
				_ = h.f.Work(w, 99)
				_, _ = h.f.Offer(w)
			}
		}
		for n, w := range want {
			h.out(n, w)
		}
	}
}

// W4: while all want more, no queue has, for what it weighs, more than one slot more than any other one that may have more.
func TestFair(t *testing.T) {
	d := die(4)
	for range 100 {
		var queues []api.Queue
		for range 2 + d.n(3) {
			queues = append(queues, api.Queue{Weight: 1 + d.n(9), Cap: d.n(13)})
		}
		h := open(t, queues, api.MaxWorkers, api.MaxSlots)
		for q := range queues {
			h.submit(q, one, strings.Repeat("a\n", 60), 1)
		}
		for n := range api.MaxWorkers * api.MaxSlots {
			x, err := h.f.Offer(n % api.MaxWorkers)
			if err == nil && h.f.Has()[x.Job] > queues[x.Job].Cap {
				t.Fatalf("%v have %v", queues, h.f.Has())
			}
			has := h.f.Has()
			for a, k := range queues {
				for b, m := range queues {
					if has[b] < m.Cap && (has[a]-1)*m.Weight > has[b]*k.Weight {
						t.Fatalf("%v have %v", queues, has)
					}
				}
			}
		}
	}
}

// Z1: no number, place or task makes a call panic; beside an error all is zero.
func TestExtremes(t *testing.T) {
	l := []int{math.MinInt, math.MinInt32, -1, 0, 1, 2, 3, 7, 61, math.MaxInt32, math.MaxInt}
	h := open(t, wide(), 2, 1)
	h.submit(0, two, hay, 1)
	h.submit(0, one, "", 1)
	for _, a := range l {
		for _, b := range l {
			n, err := h.f.Submit(a, two, hay, b)
			x, err2 := h.f.Offer(a)
			y, err3 := h.f.In(at(a, b))
			s, err4 := h.f.Status(a)
			out, err5 := h.f.Out(b)
			if err != nil && n != 0 || err2 != nil && x != (api.Task{}) || err3 != nil && y != (api.Task{}) || err4 != nil && s != (api.Status{}) || err5 != nil && len(out) != 0 {
				t.Fatalf("%d, %d: %d %v, %v %v, %v %v, %v %v, %q %v", a, b, n, err, x, err2, y, err3, s, err4, out, err5)
			}
			for _, c := range l {
				_ = h.f.Again(a, api.Task{Job: b, Index: c})
				_ = h.f.Again(a, api.Task{Job: b, Fold: true, Index: c})
			}
			_ = h.f.Work(a, b)
			_ = h.f.Suspend(at(a, b))
			_ = h.f.Kill(at(b, a))
			_ = h.f.Crash(a)
		}
	}
}

// Z2: the same calls answer the same, and floors know nothing of each other.
func TestSameCalls(t *testing.T) {
	a, b := open(t, pairOfQueues(), 3, 2), open(t, pairOfQueues(), 3, 2)
	other := open(t, wide(), 1, 1)
	var told [2][]string
	for k, h := range []hall{a, b} {
		d := die(5)
		for n := range 3 {
			h.submit(n%2, two, hay, 1+n)
		}
		for range 200 {
			happen(&d, h.f)
			told[k] = append(told[k], h.all())
		}
	}
	if !slices.Equal(told[0], told[1]) {
		t.Error("two floors answer otherwise to the same calls")
	}
	if other.f.Jobs() != 0 || other.f.Journal() != "" {
		t.Error("a floor has what another one was given")
	}
}
