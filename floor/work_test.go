package floor_test

import (
	"math"
	"testing"

	"threshfloor/api"
)

// H4: who isn't there neither works nor falls.
func TestNoWorker(t *testing.T) {
	h := open(t, wide(), 2, 1)
	h.submit(0, two, hay, 1)
	h.offers(0, part(0, 0))
	h.offers(1, part(0, 1))
	h.works(1, 9)
	for _, w := range []int{-1, 2, 3, 4, math.MinInt, math.MaxInt} {
		h.refuses("Work", api.ErrNone, func() error { return h.f.Work(w, 9) })
		h.refuses("Crash", api.ErrNone, func() error { return h.f.Crash(w) })
	}
}

// H4: slots that there are not, and slots that are free.
func TestNoSlot(t *testing.T) {
	h := open(t, wide(), 2, 2)
	h.submit(0, two, hay, 1)
	h.offers(0, part(0, 0))
	for _, c := range []struct {
		p    api.Place
		want error
	}{
		{at(-1, 0), api.ErrNone},
		{at(2, 0), api.ErrNone},
		{at(0, -1), api.ErrNone},
		{at(0, 2), api.ErrNone},
		{at(math.MaxInt, math.MinInt), api.ErrNone},
		{at(0, 1), api.ErrState},
		{at(1, 0), api.ErrState},
	} {
		h.refuses("Suspend", c.want, func() error { return h.f.Suspend(c.p) })
		h.refuses("Kill", c.want, func() error { return h.f.Kill(c.p) })
		h.refuses("In", c.want, func() error {
			x, err := h.f.In(c.p)
			if x != (api.Task{}) {
				t.Errorf("In(%v) = %v beside an error", c.p, x)
			}
			return err
		})
	}
}

// H4: each slot of that worker goes so far, and no other worker's; what isn't over stays in its slot.
func TestWork(t *testing.T) {
	h := open(t, wide(), 2, 3)
	h.submit(0, one, "a\nb\nc\nd\ne\n", 2)
	h.submit(0, one, "a\nb\nc\n", 3)
	h.offers(0, part(0, 0))
	h.offers(0, part(0, 1))
	h.offers(0, part(0, 2)) // one record
	h.offers(1, part(1, 0))
	h.works(0, 1)
	h.in(0, 0, part(0, 0))
	h.in(0, 1, part(0, 1))
	h.free(0, 2)
	h.stands(0, "0 1/3 0/1")
	h.works(0, 0)
	h.works(0, -1)
	h.works(0, math.MinInt)
	h.stands(0, "0 1/3 0/1")
	h.works(0, 1)
	h.free(0, 0)
	h.free(0, 1)
	h.stands(0, "0 3/3 0/1")
	h.in(1, 0, part(1, 0))
	h.works(1, math.MaxInt)
	h.stands(1, "0 1/1 0/1")
	h.works(0, 9)
	h.offers(0, folding(0, 0))
	h.works(0, 4)
	h.stands(0, "0 3/3 0/1")
	h.works(0, 1)
	h.stands(0, "0 3/3 1/1 done")
	h.out(0, alone(t, one, "a\nb\nc\nd\ne\n"))
}

// H4: a slice without keys is done, as soon as one works, by however little.
func TestWorkWithoutKeys(t *testing.T) {
	for _, many := range []int{1, 0, -1, math.MinInt} {
		h := open(t, wide(), 1, 1)
		h.submit(0, one, "", 1)
		h.offers(0, folding(0, 0))
		h.stands(0, "0 0/0 0/1")
		h.works(0, many)
		h.stands(0, "0 0/0 1/1 done")
		h.out(0, []string{""})
	}
}

// H4: slices that are out stand in the journal, in the order in which they were, and once each.
func TestWorkJournal(t *testing.T) {
	h := open(t, wide(), 2, 3)
	h.submit(0, two, hay, 3)
	h.submit(0, two, hay, 3)
	log := h.f.Journal()
	is := func(more string) {
		t.Helper()
		log += more
		if got := h.f.Journal(); got != log {
			t.Fatalf("Journal = %q, want %q", got, log)
		}
	}
	h.offers(0, part(0, 0))
	h.offers(0, part(1, 0))
	h.works(0, 2)
	h.must(h.f.Suspend(at(0, 1)))
	h.works(0, 9)
	is("")
	h.offers(1, folding(0, 0))
	h.offers(0, folding(0, 1))
	h.must(h.f.Again(0, folding(0, 0)))
	h.must(h.f.Again(1, folding(0, 1)))
	h.offers(1, part(1, 0))
	is("")
	h.works(0, 9)
	is("out 0 1; 8\n3:hay 2\n.out 0 0; 9\n4:oats 3\n.")
	h.works(1, 9) // it comes too late
	is("")
	h.stands(0, "0 1/1 2/2 done")
	h.offers(0, folding(1, 0))
	h.works(0, 9)
	is("out 1 0; 9\n4:oats 3\n.")
	h.must(h.f.Crash(0))
	is("")
}

// H4: a part is Done by who is the first one to be over: with that one it is lost, with no one else.
func TestFirstCounts(t *testing.T) {
	h := open(t, wide(), 3, 2)
	h.submit(0, two, hay, 3)
	h.offers(0, part(0, 0))
	h.must(h.f.Again(1, part(0, 0)))
	h.must(h.f.Again(1, part(0, 0)))
	h.works(1, 9) // both of its slots
	h.free(1, 0)
	h.free(1, 1)
	h.stands(0, "0 1/1 0/2")
	h.works(0, 9)
	h.free(0, 0)
	h.stands(0, "0 1/1 0/2")
	h.must(h.f.Crash(0))
	h.must(h.f.Crash(2))
	h.stands(0, "0 1/1 0/2")
	h.must(h.f.Crash(1))
	h.stands(0, "0 0/1 0/2")
	h.must(h.f.Crash(1))
	h.offers(1, part(0, 0))
}

// H4: a task waits, when no slot has it any more.
func TestKill(t *testing.T) {
	for _, suspend := range []bool{false, true} {
		h := open(t, wide(), 2, 2)
		end := h.f.Kill
		if suspend {
			end = h.f.Suspend
		}
		h.submit(0, two, hay, 3)
		h.offers(0, part(0, 0))
		h.must(h.f.Again(1, part(0, 0)))
		h.must(h.f.Again(1, part(0, 0)))
		h.must(end(at(1, 0)))
		h.free(1, 0)
		h.noNext() // others have it
		h.must(end(at(0, 0)))
		h.noNext()
		h.must(end(at(1, 1)))
		h.has(0)
		h.offers(0, part(0, 0))
		h.must(h.f.Again(1, part(0, 0)))
		h.works(0, 9)
		h.must(end(at(1, 0))) // it is Done, and stays so
		h.stands(0, "0 1/1 0/2")
		h.offers(0, folding(0, 0))
		h.must(h.f.Again(1, folding(0, 0)))
		h.works(1, 9)
		h.must(end(at(0, 0)))
		h.stands(0, "0 1/1 1/2")
		h.offers(0, folding(0, 1))
		h.must(end(at(0, 0)))
		h.offers(1, folding(0, 1))
	}
}

// H4: when a task is done, what was saved of it is forgotten: if it is lost, it is done from its beginning on.
func TestSavedIsForgotten(t *testing.T) {
	h := open(t, wide(), 2, 1)
	h.submit(0, one, "a\nb\nc\n", 3)
	h.offers(0, part(0, 0))
	h.works(0, 2)
	h.must(h.f.Suspend(at(0, 0)))
	h.offers(1, part(0, 0))
	h.works(1, 1)
	h.stands(0, "0 1/1 0/1")
	h.must(h.f.Crash(1))
	h.offers(0, part(0, 0))
	if got := h.steps(0, 0); got != 3 {
		t.Errorf("%d records were left", got)
	}
}

// H4: what is saved of a part that is Done already is forgotten, when it is lost.
func TestSavedLate(t *testing.T) {
	h := open(t, wide(), 2, 1)
	h.submit(0, one, "a\nb\nc\n", 3)
	h.offers(0, part(0, 0))
	h.must(h.f.Again(1, part(0, 0)))
	h.works(1, 2)
	h.works(0, 3)
	h.must(h.f.Suspend(at(1, 0)))
	h.stands(0, "0 1/1 0/1")
	h.must(h.f.Crash(0))
	h.offers(1, part(0, 0))
	if got := h.steps(1, 0); got != 3 {
		t.Errorf("%d records were left", got)
	}
}

// H4: who falls loses what runs, without its being saved, and what it had mapped; what was saved ahead of that stays.
func TestCrash(t *testing.T) {
	h := open(t, wide(), 2, 3)
	h.submit(0, one, "a\nb\nc\nd\ne\nf\ng\nh\n", 2)
	h.offers(0, part(0, 0))
	h.offers(0, part(0, 1))
	h.works(0, 1)
	h.must(h.f.Suspend(at(0, 1))) // part 1, at 1
	h.works(0, 1)                 // part 0 is done by 0
	h.offers(1, part(0, 1))
	h.offers(1, part(0, 2))
	h.offers(0, part(0, 3))
	h.must(h.f.Again(0, part(0, 2)))
	h.must(h.f.Again(0, part(0, 3)))
	h.works(0, 1)
	h.must(h.f.Crash(0))
	for s := range 3 {
		h.free(0, s)
	}
	h.in(1, 0, part(0, 1))
	h.in(1, 1, part(0, 2))
	h.stands(0, "0 0/4 0/1")
	h.works(1, 1)
	h.stands(0, "0 1/4 0/1") // part 1, of which 1 was saved
	h.offers(0, part(0, 0))
	h.offers(0, part(0, 3))
	h.noNext() // part 2 still runs
	h.works(0, 1)
	h.stands(0, "0 1/4 0/1") // what ran was not saved
	h.works(0, 1)
	h.works(1, 1)
	h.stands(0, "0 4/4 0/1")
	h.must(h.f.Crash(1))
	h.stands(0, "0 2/4 0/1")
	h.offers(0, part(0, 1))
	h.offers(0, part(0, 2))
	h.works(0, 2)
	h.toEnd(0)
	h.out(0, alone(t, one, "a\nb\nc\nd\ne\nf\ng\nh\n"))
}

// H4: of who falls what was saved stays, if it wasn't Done.
func TestCrashKeepsSaved(t *testing.T) {
	h := open(t, wide(), 1, 1)
	h.submit(0, one, "a\nb\nc\n", 3)
	h.offers(0, part(0, 0))
	h.works(0, 2)
	h.must(h.f.Suspend(at(0, 0)))
	h.must(h.f.Crash(0))
	h.offers(0, part(0, 0))
	if got := h.steps(0, 0); got != 1 {
		t.Errorf("%d records were left", got)
	}
}

// H4: who falls loses parts of all jobs; what is out stays out.
func TestCrashOfJobs(t *testing.T) {
	h := open(t, []api.Queue{{Weight: 1, Cap: 6}, {Weight: 1, Cap: 6}}, 2, 3)
	h.submit(0, two, hay, 3)
	h.submit(1, two, hay, 3)
	h.submit(1, two, hay, 3)
	h.offers(0, part(0, 0))
	h.offers(0, part(1, 0))
	h.works(0, 9)
	h.offers(0, folding(0, 0))
	h.offers(1, folding(1, 0))
	h.offers(1, folding(0, 1))
	h.works(1, 9)
	h.works(0, 9)
	h.stands(0, "0 1/1 2/2 done")
	h.stands(1, "1 1/1 1/2")
	h.must(h.f.Crash(0))
	h.stands(0, "0 0/1 2/2 done")
	h.stands(1, "1 0/1 1/2")
	h.out(0, alone(t, two, hay))
	h.offers(0, part(1, 0)) // job 0 needs nothing any more
}

// H4: an attempt goes on, though its part was done by another one, and lost with that one; it waits beside it.
func TestLostWhileTriedTwice(t *testing.T) {
	h := open(t, wide(), 3, 1)
	h.submit(0, two, hay, 3)
	h.offers(0, part(0, 0))
	h.must(h.f.Again(1, part(0, 0)))
	h.works(1, 2)
	h.works(0, 3)
	h.must(h.f.Crash(0))
	h.in(1, 0, part(0, 0))
	h.stands(0, "0 0/1 0/2")
	h.refuses("Again of a part that waits", api.ErrState, func() error { return h.f.Again(0, part(0, 0)) })
	h.offers(2, part(0, 0))
	h.works(2, 1)
	h.works(1, 1)
	h.stands(0, "0 1/1 0/2")
	h.must(h.f.Crash(2))
	h.stands(0, "0 1/1 0/2")
	h.toEnd(0)
	h.out(0, alone(t, two, hay))
}

// H4: a slice that was begun goes on, though parts are lost; it is out, and what waits then is what others need.
func TestFoldWhileLost(t *testing.T) {
	h := open(t, wide(), 2, 2)
	h.submit(0, two, hay, 1)
	for i := range 3 {
		h.offers(0, part(0, i))
		h.works(0, 9)
	}
	h.offers(1, folding(0, 0))
	h.offers(1, folding(0, 1))
	h.must(h.f.Crash(0))
	h.stands(0, "0 0/3 0/2")
	h.must(h.f.Kill(at(1, 1)))
	h.works(1, 9)
	h.stands(0, "0 0/3 1/2")
	h.toEnd(1)
	h.stands(0, "0 3/3 2/2 done")
	h.out(0, alone(t, two, hay))
}
