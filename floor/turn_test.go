package floor_test

import (
	"math"
	"testing"

	"threshfloor/api"
)

// H3: of each queue how many slots have tasks of its jobs, whichever job, part, slice or attempt.
func TestHas(t *testing.T) {
	h := open(t, []api.Queue{{Weight: 1, Cap: 12}, {Weight: 1, Cap: 12}, {Weight: 1, Cap: 12}}, 2, 3)
	h.submit(2, two, hay, 3)
	h.submit(2, two, hay, 3)
	h.submit(0, one, "", 1)
	h.has(0, 0, 0)
	h.offers(0, folding(2, 0))
	h.has(1, 0, 0)
	h.offers(0, part(0, 0))
	h.offers(1, part(1, 0))
	h.has(1, 0, 2)
	h.must(h.f.Again(1, part(0, 0)))
	h.has(1, 0, 3)
	h.works(0, 9)
	h.has(0, 0, 2)
	h.must(h.f.Kill(at(1, 0)))
	h.has(0, 0, 1)
	h.must(h.f.Crash(1))
	h.has(0, 0, 0)
}

// H3: the first job of a queue that has a task to begin: one whose tasks all run, or that is done, is passed over.
func TestNextOfQueue(t *testing.T) {
	h := open(t, wide(), 2, 3)
	h.submit(0, two, hay, 2)
	h.submit(0, one, "a\n", 1)
	h.offers(0, part(0, 0))
	h.offers(0, part(0, 1))
	h.offers(0, part(1, 0)) // a part of job 0 still runs: its slices don't come yet
	h.noNext()
	h.works(0, 1)
	h.offers(0, folding(1, 0)) // job 0 has a part that isn't over
	h.works(0, 1)
	h.offers(0, folding(0, 0))
	h.must(h.f.Kill(at(0, 0)))
	h.offers(1, folding(0, 0))
	h.offers(0, folding(0, 1))
	h.noNext()
	h.toEnd(0)
	h.toEnd(1)
	h.stands(0, "0 2/2 2/2 done")
	h.stands(1, "0 1/1 1/1 done")
	h.noNext()
}

// H3: the queue to which most is due, of those that have a task; the first one of several.
func TestNextByWeight(t *testing.T) {
	h := open(t, []api.Queue{{Weight: 1, Cap: 12}, {Weight: 3, Cap: 12}, {Weight: 9, Cap: 12}}, 4, 3)
	h.submit(1, two, hay, 1)
	h.submit(1, two, hay, 1)
	h.submit(0, two, hay, 1)
	h.submit(0, two, hay, 1)
	for i, want := range []api.Task{part(2, 0), part(0, 0), part(0, 1), part(0, 2), part(2, 1), part(1, 0), part(1, 1), part(1, 2), part(2, 2), part(3, 0)} {
		h.offers(i%4, want)
	}
	h.has(4, 6, 0)
}

// H3: no queue has more slots than its Cap; another one comes in its stead.
func TestNextByCap(t *testing.T) {
	h := open(t, []api.Queue{{Weight: 9, Cap: 2}, {Weight: 1, Cap: 1}, {Weight: 1, Cap: 0}}, 2, 3)
	h.submit(2, two, hay, 1)
	h.noNext()
	h.submit(0, two, hay, 1)
	h.submit(1, two, hay, 1)
	h.offers(0, part(1, 0))
	h.offers(0, part(2, 0))
	h.offers(0, part(1, 1))
	h.noNext()
	h.offersNone(1, api.ErrNone)
	h.has(2, 1, 0)
	h.must(h.f.Kill(at(0, 1)))
	h.offers(1, part(2, 0))
	h.works(0, 9)
	h.offers(1, part(1, 2))
}

// H3: Next changes nothing; Offer takes the worker's first slot that is free.
func TestOffer(t *testing.T) {
	h := open(t, wide(), 2, 3)
	h.submit(0, two, hay, 1)
	before := h.all()
	if after := h.all(); after != before {
		t.Errorf("Next changes %s to %s", before, after)
	}
	h.offers(1, part(0, 0))
	h.in(1, 0, part(0, 0))
	h.offers(1, part(0, 1))
	h.in(1, 1, part(0, 1))
	h.must(h.f.Kill(at(1, 0)))
	h.offers(1, part(0, 0))
	h.in(1, 0, part(0, 0))
	h.free(1, 2)
	h.free(0, 0)
}

// H3: who is offered nothing, and why: the worker's room is asked first.
func TestOfferRefuses(t *testing.T) {
	h := open(t, wide(), 2, 1)
	for _, w := range []int{-1, 2, math.MinInt, math.MaxInt} {
		h.offersNone(w, api.ErrNone)
	}
	h.offersNone(0, api.ErrNone)
	h.submit(0, two, hay, 2)
	for _, w := range []int{-1, 2, math.MinInt, math.MaxInt} {
		h.offersNone(w, api.ErrNone)
	}
	h.offers(0, part(0, 0))
	h.offersNone(0, api.ErrFull)
	h.offers(1, part(0, 1))
	h.noNext()
	h.offersNone(1, api.ErrFull)
	h.works(1, 9)
	h.offersNone(1, api.ErrNone)
}

// H3: Again begins a task that runs in one more slot, of whichever worker.
func TestAgain(t *testing.T) {
	h := open(t, wide(), 2, 3)
	h.submit(0, two, hay, 3)
	h.offers(0, part(0, 0))
	h.must(h.f.Again(1, part(0, 0)))
	h.must(h.f.Again(0, part(0, 0)))
	h.in(1, 0, part(0, 0))
	h.in(0, 1, part(0, 0))
	h.has(3)
	h.noNext()
	h.works(1, 9)
	h.stands(0, "0 1/1 0/2")
	h.offers(1, folding(0, 0))
	h.must(h.f.Again(1, folding(0, 0)))
	h.in(1, 1, folding(0, 0))
	h.has(4)
}

// H3: what Again refuses, and which of several errors is told.
func TestAgainRefuses(t *testing.T) {
	h := open(t, []api.Queue{{Weight: 1, Cap: 2}}, 3, 2)
	refuses := func(what string, w int, x api.Task, want error) {
		t.Helper()
		h.refuses(what, want, func() error { return h.f.Again(w, x) })
	}
	refuses("no job", 0, part(0, 0), api.ErrNone)
	h.submit(0, two, hay, 2)
	for _, w := range []int{-1, 3, math.MinInt, math.MaxInt} {
		refuses("no worker", w, part(0, 0), api.ErrNone)
	}
	for _, n := range []int{-1, 1, math.MinInt, math.MaxInt} {
		refuses("no such job", 0, part(n, 0), api.ErrNone)
		refuses("no such job", 0, folding(n, 0), api.ErrNone)
	}
	for _, i := range []int{-1, 2, math.MinInt, math.MaxInt} {
		refuses("no such part", 0, part(0, i), api.ErrNone)
		refuses("no such slice", 0, folding(0, i), api.ErrNone)
	}
	refuses("a part waits", 0, part(0, 0), api.ErrState)
	refuses("a slice waits", 0, folding(0, 0), api.ErrState)
	h.offers(0, part(0, 0))
	h.offers(0, part(0, 1))
	refuses("no room", 0, part(0, 0), api.ErrFull)
	refuses("no room ahead of no task", 0, part(9, 9), api.ErrFull)
	refuses("the queue has its Cap", 1, part(0, 0), api.ErrFull)
	refuses("no task ahead of the Cap", 1, part(0, 2), api.ErrNone)
	refuses("a state ahead of the Cap", 1, folding(0, 0), api.ErrState)
	h.must(h.f.Kill(at(0, 1)))
	h.must(h.f.Again(1, part(0, 0)))
	h.works(1, 9)
	h.must(h.f.Kill(at(0, 0)))
	refuses("a part is Done", 0, part(0, 0), api.ErrState)
	h.offers(0, part(0, 1))
	h.works(0, 9)
	h.offers(0, folding(0, 0))
	h.must(h.f.Again(2, folding(0, 0)))
	h.must(h.f.Kill(at(2, 0)))
	h.must(h.f.Crash(1)) // part 0 is lost
	h.in(0, 0, folding(0, 0))
	refuses("a slice runs while not all is Mapped", 2, folding(0, 0), api.ErrState)
	h.works(0, 9)
	refuses("a slice is Done", 2, folding(0, 0), api.ErrState)
}

// H3: a part is begun where it was saved last, or at its beginning.
func TestBegunPart(t *testing.T) {
	h := open(t, wide(), 3, 1)
	h.submit(0, one, "a\nb\nc\nd\ne\n", 5)
	left := func(w, want int) {
		t.Helper()
		if got := h.steps(w, 0); got != want {
			t.Errorf("%d records were left, want %d", got, want)
		}
	}
	h.offers(0, part(0, 0))
	h.works(0, 2)
	h.must(h.f.Kill(at(0, 0)))
	h.offers(0, part(0, 0)) // at its beginning
	h.works(0, 2)
	h.must(h.f.Suspend(at(0, 0)))
	h.offers(1, part(0, 0)) // at 2, by another one
	h.works(1, 1)
	h.must(h.f.Kill(at(1, 0)))
	h.offers(1, part(0, 0)) // at 2: what was killed is lost
	h.must(h.f.Again(2, part(0, 0)))
	left(1, 3)
	h.stands(0, "0 1/1 0/1")
	left(2, 3) // who tries once more begins there too
	h.stands(0, "0 1/1 0/1")
	h.toEnd(0)
	h.out(0, []string{"1:a 1\n1:b 1\n1:c 1\n1:d 1\n1:e 1\n"})
}

// H3: of several attempts that are saved the last one counts, wherever it stands.
func TestBegunLast(t *testing.T) {
	for _, c := range []struct{ first, last int }{{1, 4}, {4, 1}, {3, 0}} {
		h := open(t, wide(), 2, 2)
		h.submit(0, one, "a\nb\nc\nd\ne\n", 5)
		h.offers(0, part(0, 0))
		h.must(h.f.Again(1, part(0, 0)))
		h.works(0, c.first)
		h.works(1, c.last)
		h.must(h.f.Suspend(at(0, 0)))
		h.must(h.f.Suspend(at(1, 0)))
		h.offers(0, part(0, 0))
		if got := h.steps(0, 0); got != 5-c.last {
			t.Errorf("%v: %d records were left", c, got)
		}
		h.toEnd(0)
		h.out(0, []string{"1:a 1\n1:b 1\n1:c 1\n1:d 1\n1:e 1\n"})
	}
}

// H3: a slice is begun where it was saved last too, also when parts were lost and mapped anew since then.
func TestBegunSlice(t *testing.T) {
	for _, lost := range []bool{false, true} {
		h := open(t, wide(), 2, 1)
		h.submit(0, one, three, 2)
		h.offers(0, part(0, 0))
		h.offers(1, part(0, 1))
		h.works(0, 9)
		h.works(1, 9)
		h.offers(0, folding(0, 0))
		h.works(0, 1)
		h.must(h.f.Kill(at(0, 0)))
		h.offers(1, folding(0, 0))
		h.works(1, 2)
		h.must(h.f.Suspend(at(1, 0)))
		if lost {
			h.must(h.f.Crash(0))
			h.stands(0, "0 1/2 0/1")
			h.offers(1, part(0, 0))
			h.works(1, 9)
		}
		h.offers(1, folding(0, 0))
		if got := h.steps(1, 0); got != 1 {
			t.Errorf("%d keys were left", got)
		}
		h.out(0, []string{"1:a 2\n1:b 1\n1:c 2\n"})
	}
}

// H3: what is saved is one task's: of the same job, index or fold another one begins at its beginning.
func TestBegunApart(t *testing.T) {
	h := open(t, wide(), 1, 1)
	h.submit(0, one, "a\nb\nc\nd\n", 2)
	h.submit(0, one, "a\nb\nc\nd\n", 2)
	h.offers(0, part(0, 0))
	h.works(0, 1)
	h.must(h.f.Suspend(at(0, 0)))
	for _, c := range []struct {
		task api.Task
		left int
	}{{part(0, 0), 1}, {part(0, 1), 2}, {folding(0, 0), 4}, {part(1, 0), 2}, {part(1, 1), 2}, {folding(1, 0), 4}} {
		h.offers(0, c.task)
		if got := h.steps(0, 0); got != c.left {
			t.Errorf("%v: %d were left, want %d", c.task, got, c.left)
		}
	}
}
