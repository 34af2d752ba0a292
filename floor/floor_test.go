package floor_test

import (
	"math"
	"slices"
	"strconv"
	"strings"
	"testing"

	"threshfloor/api"
	"threshfloor/floor"
	"threshfloor/fold"
	"threshfloor/job"
	"threshfloor/journal"
	"threshfloor/mapper"
	"threshfloor/order"
	"threshfloor/pair"
)

// Jobs and inputs of these tests.
const (
	two   = "count 2\neach other it \"the\" key it val num 1\n"
	one   = "sum 1\neach key it val num 1\n"
	hay   = "the hay the oats\nhay\noats oats the\n"
	three = "c a\nb\na c\n"
)

// hall: a floor that is asked, and who is told if it answers otherwise.
type hall struct {
	*testing.T
	f *floor.Floor
}

// wide queue: it may have all slots.
func wide() []api.Queue { return []api.Queue{{Weight: 1, Cap: 12}} }

// open a floor that may be.
func open(t *testing.T, queues []api.Queue, workers, slots int) hall {
	t.Helper()
	f, err := floor.New(queues, workers, slots)
	if err != nil || f == nil {
		t.Fatalf("New(%v, %d, %d) = %v, %v", queues, workers, slots, f, err)
	}
	return hall{t, f}
}

// recovered floor that may be.
func recovered(t *testing.T, log string, queues []api.Queue, workers, slots int) hall {
	t.Helper()
	f, err := floor.Recover(log, queues, workers, slots)
	if err != nil || f == nil {
		t.Fatalf("Recover(%q) = %v, %v", log, f, err)
	}
	return hall{t, f}
}

func at(w, s int) api.Place       { return api.Place{Worker: w, Slot: s} }
func part(job, i int) api.Task    { return api.Task{Job: job, Index: i} }
func folding(job, i int) api.Task { return api.Task{Job: job, Fold: true, Index: i} }

// must be without an error.
func (h hall) must(err error) {
	h.Helper()
	if err != nil {
		h.Fatal(err)
	}
}

// refuses: an error is told, and nothing that can be seen changes.
func (h hall) refuses(what string, want error, act func() error) {
	h.Helper()
	before := h.all()
	if err := act(); err != want {
		h.Errorf("%s: %v, want %v", what, err, want)
	}
	if after := h.all(); after != before {
		h.Errorf("%s: with an error there is\n%s\nwhere there was\n%s", what, after, before)
	}
}

// all that a floor tells.
func (h hall) all() string {
	var b strings.Builder
	task := func(t api.Task) {
		b.WriteString(strconv.Itoa(t.Job) + strconv.FormatBool(t.Fold) + strconv.Itoa(t.Index) + ";")
	}
	for _, n := range h.f.Has() {
		b.WriteString(strconv.Itoa(n) + " ")
	}
	t, ok := h.f.Next()
	b.WriteString(strconv.FormatBool(ok))
	task(t)
	for w := range api.MaxWorkers {
		for s := range api.MaxSlots {
			if t, err := h.f.In(at(w, s)); err == nil {
				b.WriteString(strconv.Itoa(w) + "/" + strconv.Itoa(s) + ":")
				task(t)
			}
		}
	}
	for n := range h.f.Jobs() {
		b.WriteString(statusText(h.f.Status(n)))
		l, _ := h.f.Out(n)
		b.WriteString(strings.Join(l, "|"))
	}
	return b.String() + h.f.Journal()
}

// statusText of a job.
func statusText(s api.Status, err error) string {
	if err != nil {
		return err.Error()
	}
	t := strconv.Itoa(s.Queue) + " " + strconv.Itoa(s.Mapped) + "/" + strconv.Itoa(s.Parts) + " " + strconv.Itoa(s.Out) + "/" + strconv.Itoa(s.Slices)
	if s.Done {
		t += " done"
	}
	return t
}

// submit a job that may be: its number.
func (h hall) submit(q int, program, input string, size int) int {
	h.Helper()
	n, err := h.f.Submit(q, program, input, size)
	if err != nil || n != h.f.Jobs()-1 {
		h.Fatalf("Submit(%d, %q, %q, %d) = %d, %v of %d", q, program, input, size, n, err, h.f.Jobs())
	}
	return n
}

// offers a worker that task, as Next told it.
func (h hall) offers(w int, want api.Task) {
	h.Helper()
	next, ok := h.f.Next()
	if next != want || !ok {
		h.Fatalf("Next = %v, %v, want %v", next, ok, want)
	}
	if got, err := h.f.Offer(w); got != want || err != nil {
		h.Fatalf("Offer(%d) = %v, %v, want %v", w, got, err, want)
	}
}

// offersNone, because of that.
func (h hall) offersNone(w int, want error) {
	h.Helper()
	h.refuses("Offer("+strconv.Itoa(w)+")", want, func() error {
		t, err := h.f.Offer(w)
		if t != (api.Task{}) {
			h.Errorf("Offer(%d) = %v beside %v", w, t, err)
		}
		return err
	})
}

// noNext: there is none, and nothing beside that.
func (h hall) noNext() {
	h.Helper()
	if t, ok := h.f.Next(); t != (api.Task{}) || ok {
		h.Errorf("Next = %v, %v, want none", t, ok)
	}
}

// works: a worker goes on.
func (h hall) works(w, many int) {
	h.Helper()
	h.must(h.f.Work(w, many))
}

// has: how many slots queues have.
func (h hall) has(want ...int) {
	h.Helper()
	if got := h.f.Has(); !slices.Equal(got, want) {
		h.Errorf("Has = %v, want %v", got, want)
	}
}

// in a slot is that task.
func (h hall) in(w, s int, want api.Task) {
	h.Helper()
	if got, err := h.f.In(at(w, s)); got != want || err != nil {
		h.Errorf("In(%d, %d) = %v, %v, want %v", w, s, got, err, want)
	}
}

// free is a slot.
func (h hall) free(w, s int) {
	h.Helper()
	if got, err := h.f.In(at(w, s)); got != (api.Task{}) || err != api.ErrState {
		h.Errorf("In(%d, %d) = %v, %v, want %v", w, s, got, err, api.ErrState)
	}
}

// stands: a job's status.
func (h hall) stands(n int, want string) {
	h.Helper()
	if got := statusText(h.f.Status(n)); got != want {
		h.Errorf("Status(%d) = %s, want %s", n, got, want)
	}
}

// steps of one record or key each that a worker goes, until a slot is free.
func (h hall) steps(w, s int) int {
	h.Helper()
	for n := range 1000 {
		if _, err := h.f.In(at(w, s)); err != nil {
			return n
		}
		h.works(w, 1)
	}
	h.Fatal("a run doesn't end")
	return 0
}

// toEnd: one worker does all that is left.
func (h hall) toEnd(w int) {
	h.Helper()
	for range 1000 {
		h.works(w, 1000)
		if _, err := h.f.Offer(w); err != nil {
			return
		}
	}
	h.Fatal("there is no end of tasks")
}

// out of a job that is done.
func (h hall) out(n int, want []string) {
	h.Helper()
	if got, err := h.f.Out(n); !slices.Equal(got, want) || err != nil {
		h.Errorf("Out(%d) = %q, %v, want %q", n, got, err, want)
	}
}

// alone: what one alone makes of an input, without parts, runs or early folding.
func alone(t *testing.T, program, input string) []string {
	t.Helper()
	j, err := job.Parse(program)
	if err != nil {
		t.Fatal(err)
	}
	lines, err := mapper.Records(input)
	if err != nil {
		t.Fatal(err)
	}
	lists := make([][]api.Pair, j.Slices)
	for _, l := range lines {
		for _, p := range mapper.Pairs(j, l) {
			i := pair.Slice(p.Key, j.Slices)
			lists[i] = append(lists[i], p)
		}
	}
	var out []string
	for _, l := range lists {
		out = append(out, pair.Text(fold.Groups(j.Fold, order.Sort(l))))
	}
	return out
}

// jobEntry and outEntry of a journal.
func jobEntry(q, size int, program, input string) string {
	return journal.Text(journal.Entry{Kind: "job", N: []int{q, size}, Texts: []string{program, input}})
}

func outEntry(n, slice int, text string) string {
	return journal.Text(journal.Entry{Kind: "out", N: []int{n, slice}, Texts: []string{text}})
}

// H1: bounds of queues, workers and slots; those of queues are told first.
func TestNew(t *testing.T) {
	good := api.Queue{Weight: 1, Cap: 1}
	for _, c := range []struct {
		name           string
		queues         []api.Queue
		workers, slots int
		want           error
	}{
		{"least", []api.Queue{{Weight: 1, Cap: 0}}, 1, 1, nil},
		{"most", []api.Queue{{Weight: 9, Cap: 12}, good, good, good}, 4, 3, nil},
		{"no queues", nil, 1, 1, api.ErrMany},
		{"an empty list", []api.Queue{}, 1, 1, api.ErrMany},
		{"too many queues", []api.Queue{good, good, good, good, good}, 1, 1, api.ErrMany},
		{"no weight", []api.Queue{good, {Cap: 1}}, 1, 1, api.ErrBound},
		{"too heavy", []api.Queue{{Weight: 10, Cap: 1}}, 1, 1, api.ErrBound},
		{"cap below 0", []api.Queue{{Weight: 1, Cap: -1}}, 1, 1, api.ErrBound},
		{"cap too great", []api.Queue{{Weight: 1, Cap: 13}}, 1, 1, api.ErrBound},
		{"no workers", []api.Queue{good}, 0, 1, api.ErrBound},
		{"too many workers", []api.Queue{good}, 5, 1, api.ErrBound},
		{"no slots", []api.Queue{good}, 1, 0, api.ErrBound},
		{"too many slots", []api.Queue{good}, 1, 4, api.ErrBound},
		{"least number", []api.Queue{good}, math.MinInt, math.MinInt, api.ErrBound},
		{"greatest number", []api.Queue{good}, math.MaxInt, math.MaxInt, api.ErrBound},
		{"queues ahead of workers", nil, 0, 1, api.ErrMany},
	} {
		f, err := floor.New(c.queues, c.workers, c.slots)
		if err != c.want || (f == nil) != (err != nil) {
			t.Errorf("%s: New = %v, %v, want %v", c.name, f, err, c.want)
		}
		f, err = floor.Recover(jobEntry(0, 1, two, hay), c.queues, c.workers, c.slots)
		if err != c.want || (f == nil) != (err != nil) {
			t.Errorf("%s: Recover = %v, %v, want %v", c.name, f, err, c.want)
		}
	}
}

// H1: a floor is without jobs and without a journal, and all of its slots are free.
func TestNewFloor(t *testing.T) {
	h := open(t, []api.Queue{{Weight: 1, Cap: 1}, {Weight: 2, Cap: 2}, {Weight: 1, Cap: 0}}, 3, 2)
	if n, log := h.f.Jobs(), h.f.Journal(); n != 0 || log != "" {
		t.Errorf("Jobs, Journal = %d, %q", n, log)
	}
	h.has(0, 0, 0)
	h.noNext()
	h.offersNone(0, api.ErrNone)
	h.stands(0, api.ErrNone.Error())
	for w := range 3 {
		for s := range 2 {
			h.free(w, s)
		}
		h.works(w, 9)
		h.must(h.f.Crash(w))
	}
	for _, p := range []api.Place{at(3, 0), at(0, 2), at(-1, 0), at(0, -1)} {
		if got, err := h.f.In(p); got != (api.Task{}) || err != api.ErrNone {
			t.Errorf("In(%v) = %v, %v", p, got, err)
		}
	}
}

// H2: what is refused, and which of several errors is told.
func TestSubmitRefuses(t *testing.T) {
	h := open(t, []api.Queue{{Weight: 1, Cap: 1}, {Weight: 2, Cap: 2}}, 1, 1)
	h.submit(1, two, hay, 1) // so that a number beside an error could be another one than 0
	long := strings.Repeat("x", api.MaxProgram+1)
	lines := strings.Repeat("\n", api.MaxRecords+1)
	for _, c := range []struct {
		name           string
		q              int
		program, input string
		size           int
		want           error
	}{
		{"queue below 0", -1, two, hay, 1, api.ErrNone},
		{"no such queue", 2, two, hay, 1, api.ErrNone},
		{"greatest queue", math.MaxInt, two, hay, 1, api.ErrNone},
		{"least queue", math.MinInt, two, hay, 1, api.ErrNone},
		{"the queue first", 2, long, "x", 0, api.ErrNone},
		{"a long program", 0, long, hay, 1, api.ErrMany},
		{"no program", 0, "", hay, 1, api.ErrText},
		{"a program without rules", 0, "sum 1\n", hay, 1, api.ErrText},
		{"a program without its end", 0, two[:len(two)-1], hay, 1, api.ErrText},
		{"the program ahead of the input", 0, "x", lines, 0, api.ErrText},
		{"an input without its end", 0, two, "x", 1, api.ErrText},
		{"too many records", 0, two, lines, 1, api.ErrMany},
		{"a long record", 0, two, strings.Repeat("x", api.MaxRecord+1) + "\n", 1, api.ErrBound},
		{"the input ahead of the size", 0, two, lines, 0, api.ErrMany},
		{"size 0", 0, two, hay, 0, api.ErrBound},
		{"size below 0", 1, two, hay, -1, api.ErrBound},
		{"size 61", 1, two, hay, api.MaxRecords + 1, api.ErrBound},
		{"size 61 of nothing", 1, two, "", api.MaxRecords + 1, api.ErrBound},
		{"greatest size", 1, two, hay, math.MaxInt, api.ErrBound},
		{"least size", 1, two, hay, math.MinInt, api.ErrBound},
	} {
		h.refuses(c.name, c.want, func() error {
			n, err := h.f.Submit(c.q, c.program, c.input, c.size)
			if n != 0 {
				t.Errorf("%s: %d beside an error", c.name, n)
			}
			return err
		})
	}
}

// H2: no more than MaxJobs: told behind the queue, ahead of all else.
func TestSubmitMany(t *testing.T) {
	h := open(t, wide(), 1, 1)
	for n := range api.MaxJobs {
		if got := h.submit(0, two, hay, 1); got != n {
			t.Errorf("Submit = %d, want %d", got, n)
		}
	}
	for _, program := range []string{two, "x"} {
		h.refuses("one more", api.ErrMany, func() error {
			_, err := h.f.Submit(0, program, hay, 1)
			return err
		})
	}
	h.refuses("one more of no queue", api.ErrNone, func() error {
		_, err := h.f.Submit(1, two, hay, 1)
		return err
	})
}

// H2: each job is an entry of the journal, one behind the other; its queue is told.
func TestSubmitJournal(t *testing.T) {
	h := open(t, []api.Queue{{Weight: 1, Cap: 1}, {Weight: 2, Cap: 2}}, 1, 1)
	h.submit(1, two, hay, 2)
	want := "job 1 2; 45 35\n" + two + hay + "."
	if got := h.f.Journal(); got != want {
		t.Errorf("Journal = %q, want %q", got, want)
	}
	h.submit(0, one, "", 60)
	want += "job 0 60; 28 0\n" + one + "."
	if got := h.f.Journal(); got != want {
		t.Errorf("Journal = %q, want %q", got, want)
	}
	h.stands(0, "1 0/2 0/2")
	h.stands(1, "0 0/0 0/1")
}

// H2: parts are so many records each, one behind the other; the last one may have fewer.
func TestParts(t *testing.T) {
	for _, c := range []struct {
		records, size int
		want          []int
	}{
		{0, 1, nil},
		{0, 60, nil},
		{1, 1, []int{1}},
		{1, 60, []int{1}},
		{3, 1, []int{1, 1, 1}},
		{4, 2, []int{2, 2}},
		{5, 2, []int{2, 2, 1}},
		{7, 3, []int{3, 3, 1}},
		{8, 3, []int{3, 3, 2}},
		{5, 9, []int{5}},
		{60, 60, []int{60}},
		{60, 59, []int{59, 1}},
	} {
		h := open(t, wide(), 1, 1)
		input := ""
		for i := range c.records {
			input += "r" + strconv.Itoa(i) + "\n"
		}
		h.submit(0, "sum 1\nkey line val num 1\n", input, c.size)
		for i, want := range c.want {
			h.offers(0, part(0, i))
			if got := h.steps(0, 0); got != want {
				t.Errorf("%v: part %d has %d records", c, i, got)
			}
		}
		h.offers(0, folding(0, 0))
		if got := max(1, c.records); h.steps(0, 0) != got {
			t.Errorf("%v: the slice has not %d keys", c, got)
		}
		h.out(0, alone(t, "sum 1\nkey line val num 1\n", input))
	}
}
