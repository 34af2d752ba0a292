package floor_test

import (
	"slices"
	"strings"
	"testing"

	"threshfloor/api"
	"threshfloor/floor"
	"threshfloor/journal"
)

// pairOfQueues, of which each may have all slots.
func pairOfQueues() []api.Queue { return []api.Queue{{Weight: 1, Cap: 12}, {Weight: 2, Cap: 12}} }

// H6: of a journal without entries a floor is as a new one.
func TestRecoverNothing(t *testing.T) {
	for _, log := range []string{"", "x", "job", "job 0 1; 45 35\n", ".", "\n"} {
		h := recovered(t, log, wide(), 2, 3)
		if n, log := h.f.Jobs(), h.f.Journal(); n != 0 || log != "" {
			t.Errorf("Jobs, Journal = %d, %q", n, log)
		}
		h.has(0)
		h.noNext()
		h.free(1, 2)
		h.submit(0, two, hay, 1)
		h.offers(1, part(0, 0))
	}
}

// H6: jobs with their queues and parts, slices that are out: nothing is mapped, and no slot has anything.
func TestRecover(t *testing.T) {
	log := jobEntry(1, 2, two, hay) + jobEntry(0, 1, one, three) + outEntry(0, 1, "3:hay 2\n") + jobEntry(1, 60, one, "") + outEntry(2, 0, "")
	h := recovered(t, log, pairOfQueues(), 2, 1)
	if got := h.f.Journal(); got != log {
		t.Errorf("Journal = %q, want %q", got, log)
	}
	h.has(0, 0)
	h.stands(0, "1 0/2 1/2")
	h.stands(1, "0 0/3 0/1")
	h.stands(2, "1 0/0 1/1 done")
	h.stands(3, api.ErrNone.Error())
	h.out(2, []string{""})
	h.offers(0, part(1, 0))
	h.offers(1, part(0, 0))
	h.works(1, 9)
	h.offers(1, part(0, 1))
	h.works(1, 9)
	h.offers(1, folding(0, 0)) // the other slice is out
	h.works(1, 9)
	h.stands(0, "1 2/2 2/2 done")
	log += outEntry(0, 0, "4:oats 3\n")
	if got := h.f.Journal(); got != log {
		t.Errorf("Journal = %q, want %q", got, log)
	}
	h.out(0, alone(t, two, hay))
	h.toEnd(0)
	h.out(1, alone(t, one, three))
}

// H6: what is out is what its entry says, whatever that is, also ahead of the slices before it.
func TestRecoverTexts(t *testing.T) {
	odd := "out 0 0; 1\nx.\x00"
	h := recovered(t, jobEntry(0, 1, two, hay)+outEntry(0, 1, odd)+outEntry(0, 0, ""), wide(), 1, 1)
	h.stands(0, "0 0/3 2/2 done")
	h.out(0, []string{"", odd})
	h.noNext() // what is out needs no parts any more
	h.must(h.f.Crash(0))
	h.out(0, []string{"", odd})
}

// H6: the first entry that is none of a floor's ends it, with all that stands behind it.
func TestRecoverEnds(t *testing.T) {
	whole := jobEntry(0, 2, two, hay) + outEntry(0, 0, "x")
	entry := func(kind string, n []int, texts ...string) string {
		return journal.Text(journal.Entry{Kind: kind, N: n, Texts: texts})
	}
	for _, c := range []struct{ name, bad string }{
		{"another kind", entry("jobs", []int{0, 1}, two, hay)},
		{"another kind with one text", entry("in", []int{0, 1}, "y")},
		{"no numbers of a job", entry("job", nil, two, hay)},
		{"one number of a job", entry("job", []int{0}, two, hay)},
		{"three numbers of a job", entry("job", []int{0, 1, 1}, two, hay)},
		{"no text of a job", entry("job", []int{0, 1})},
		{"one text of a job", entry("job", []int{0, 1}, two)},
		{"three texts of a job", entry("job", []int{0, 1}, two, hay, "")},
		{"one number of an out", entry("out", []int{0}, "y")},
		{"three numbers of an out", entry("out", []int{0, 1, 1}, "y")},
		{"no text of an out", entry("out", []int{0, 1})},
		{"two texts of an out", entry("out", []int{0, 1}, "y", "y")},
		{"no such queue", jobEntry(1, 1, two, hay)},
		{"a queue below 0", jobEntry(-1, 1, two, hay)},
		{"no program", jobEntry(0, 1, "", hay)},
		{"no input", jobEntry(0, 1, two, "x")},
		{"too many records", jobEntry(0, 1, two, strings.Repeat("\n", 61))},
		{"no size", jobEntry(0, 0, two, hay)},
		{"a size too great", jobEntry(0, 61, two, hay)},
		{"no such job", outEntry(1, 1, "y")},
		{"a job below 0", outEntry(-1, 1, "y")},
		{"no such slice", outEntry(0, 2, "y")},
		{"a slice below 0", outEntry(0, -1, "y")},
		{"a slice that is Done", outEntry(0, 0, "y")},
		{"a slice that is Done, the same text", outEntry(0, 0, "x")},
		{"none at all", "."},
		{"noughts ahead", "out 0 01; 1\ny."},
		{"not whole", "out 0 1; 2\ny."},
	} {
		h := recovered(t, whole+c.bad+jobEntry(0, 1, one, "")+outEntry(0, 1, "y"), wide(), 1, 1)
		if got := h.f.Journal(); got != whole || h.f.Jobs() != 1 {
			t.Errorf("%s: Journal = %q of %d jobs", c.name, got, h.f.Jobs())
		}
		h.stands(0, "0 0/2 1/2")
		h.toEnd(0)
		h.out(0, []string{"x", "3:hay 2\n"})
	}
}

// H6: no more than MaxJobs are taken, though slices behind these are.
func TestRecoverMany(t *testing.T) {
	log := ""
	for range api.MaxJobs {
		log += jobEntry(0, 1, one, "")
	}
	log += outEntry(5, 0, "x")
	h := recovered(t, log+jobEntry(0, 1, one, "")+outEntry(4, 0, "x"), wide(), 1, 1)
	if got := h.f.Journal(); got != log || h.f.Jobs() != api.MaxJobs {
		t.Errorf("Journal = %q of %d jobs", got, h.f.Jobs())
	}
	h.stands(4, "0 0/0 0/1")
	h.stands(5, "0 0/0 1/1 done")
}

// H6: other queues, workers and slots than those of the floor whose journal it was.
func TestRecoverElsewhere(t *testing.T) {
	h := open(t, pairOfQueues(), 1, 1)
	h.submit(0, two, hay, 3)
	h.submit(1, two, hay, 3)
	h.submit(0, two, hay, 3)
	h.toEnd(0)
	f := recovered(t, h.f.Journal(), wide(), 4, 3)
	if f.f.Jobs() != 1 || f.f.Journal() != jobEntry(0, 3, two, hay) {
		t.Errorf("Jobs, Journal = %d, %q", f.f.Jobs(), f.f.Journal())
	}
	f = recovered(t, h.f.Journal(), []api.Queue{{Weight: 9, Cap: 0}, {Weight: 9, Cap: 0}, {Weight: 9, Cap: 0}}, 4, 3)
	for n := range 3 {
		f.out(n, alone(t, two, hay))
	}
	f.has(0, 0, 0)
	f.free(3, 2)
}

// W2, H6: of a journal that is cut anywhere the floor has the jobs that are whole in it, and what is out of them; it comes to the same end.
func TestRecoverCut(t *testing.T) {
	h := open(t, pairOfQueues(), 2, 2)
	h.submit(0, two, hay, 2)
	h.submit(1, "least 3 early\neach key cut 1 it val len line\n", hay, 1)
	h.toEnd(0)
	h.submit(1, one, three, 2)
	h.toEnd(1)
	log := h.f.Journal()
	for cut := range len(log) + 1 {
		f := recovered(t, log[:cut], pairOfQueues(), 3, 1)
		kept := f.f.Journal()
		if !strings.HasPrefix(log[:cut], kept) {
			t.Fatalf("Journal = %q of %q", kept, log[:cut])
		}
		if got, want := strings.Count(kept, "job "), strings.Count(log[:len(kept)], "job "); f.f.Jobs() != got || got != want {
			t.Fatalf("%d jobs of %q", f.f.Jobs(), kept)
		}
		if n := len(journal.Parse(log[:cut])); len(journal.Parse(kept)) != n {
			t.Fatalf("%q is not all of %q", kept, log[:cut])
		}
		out := 0
		for n := range f.f.Jobs() {
			s, err := f.f.Status(n)
			f.must(err)
			out += s.Out
		}
		if out != strings.Count(kept, "out ") {
			t.Fatalf("%d slices are out of %q", out, kept)
		}
		f.toEnd(2)
		for n := range f.f.Jobs() {
			want, err := h.f.Out(n)
			f.must(err)
			f.out(n, want)
		}
	}
}

// W2: of a floor that was made anew one that is made anew is the same, and the first one knows nothing of either.
func TestRecoverTwice(t *testing.T) {
	h := open(t, pairOfQueues(), 2, 2)
	h.submit(1, two, hay, 3)
	h.offers(0, part(0, 0))
	h.works(0, 9)
	h.offers(1, folding(0, 0))
	h.works(1, 9)
	before := h.all()
	f := recovered(t, h.f.Journal(), pairOfQueues(), 2, 2)
	g := recovered(t, f.f.Journal(), pairOfQueues(), 2, 2)
	if f.all() != g.all() {
		t.Errorf("%s is not %s", g.all(), f.all())
	}
	g.toEnd(0)
	f.stands(0, "1 0/1 1/2")
	if after := h.all(); after != before {
		t.Errorf("%s was %s", after, before)
	}
}

// H6: whatever a journal is, a floor is made of what it begins with.
func FuzzRecover(f *testing.F) {
	f.Add("")
	f.Add(jobEntry(0, 2, two, hay) + outEntry(0, 1, "3:hay 2\n"))
	f.Add(jobEntry(0, 1, one, "") + outEntry(0, 0, "") + outEntry(0, 0, ""))
	f.Add(jobEntry(1, 60, one, three) + "out 0 9223372036854775807; 0\n.")
	f.Fuzz(func(t *testing.T, log string) {
		h := recovered(t, log, pairOfQueues(), 2, 2)
		kept := h.f.Journal()
		if !strings.HasPrefix(log, kept) {
			t.Fatalf("%q is not the beginning of %q", kept, log)
		}
		again := recovered(t, kept, pairOfQueues(), 2, 2)
		if again.all() != h.all() {
			t.Fatalf("%s is not %s", again.all(), h.all())
		}
		h.toEnd(0)
		h.toEnd(1)
		for n := range h.f.Jobs() {
			if _, err := h.f.Out(n); err != nil {
				t.Fatalf("Out(%d): %v", n, err)
			}
		}
	})
}

// Z2: lists that are handed in aren't kept, those that come out are the caller's.
func TestApart(t *testing.T) {
	for _, begin := range []func(l []api.Queue) (*floor.Floor, error){
		func(l []api.Queue) (*floor.Floor, error) { return floor.New(l, 2, 2) },
		func(l []api.Queue) (*floor.Floor, error) { return floor.Recover("", l, 2, 2) },
	} {
		behind := []api.Queue{{Weight: 1, Cap: 3}, {Weight: 1, Cap: 0}, {Weight: 7, Cap: 7}}
		f, err := begin(behind[:2])
		if err != nil {
			t.Fatal(err)
		}
		if behind[2] != (api.Queue{Weight: 7, Cap: 7}) {
			t.Errorf("%v was written into", behind)
		}
		behind[0].Cap, behind[1].Cap = 0, 9
		h := hall{t, f}
		h.submit(1, two, hay, 3)
		h.noNext()
		h.submit(0, two, hay, 3)
		h.offers(0, part(1, 0))
		has := h.f.Has()
		has[0] = 99
		_ = append(has, 99)
		h.has(1, 0)
		h.toEnd(0)
		want := alone(t, two, hay)
		l, err := h.f.Out(1)
		h.must(err)
		slices.Reverse(l)
		_ = append(l[:1], "x")
		h.out(1, want)
	}
}
