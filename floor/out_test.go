package floor_test

import (
	"math"
	"testing"

	"threshfloor/api"
)

// H5: of jobs that there are not neither is told.
func TestNoJob(t *testing.T) {
	h := open(t, wide(), 1, 1)
	h.submit(0, two, hay, 3)
	h.toEnd(0)
	for _, n := range []int{-1, 1, math.MinInt, math.MaxInt} {
		if s, err := h.f.Status(n); s != (api.Status{}) || err != api.ErrNone {
			t.Errorf("Status(%d) = %v, %v", n, s, err)
		}
		if l, err := h.f.Out(n); len(l) != 0 || err != api.ErrNone {
			t.Errorf("Out(%d) = %q, %v", n, l, err)
		}
	}
}

// H5: the queue, parts, those that are Done, slices, those that are Done; Out tells nothing until all are.
func TestStatus(t *testing.T) {
	h := open(t, []api.Queue{{Weight: 1, Cap: 1}, {Weight: 1, Cap: 1}, {Weight: 1, Cap: 2}}, 1, 1)
	h.submit(2, two, hay, 1)
	next := func(x api.Task, want api.Status) {
		t.Helper()
		h.offers(0, x)
		if l, err := h.f.Out(0); len(l) != 0 || err != api.ErrState {
			t.Errorf("Out = %q, %v, want %v", l, err, api.ErrState)
		}
		h.works(0, 9)
		if got, err := h.f.Status(0); got != want || err != nil {
			t.Errorf("Status = %+v, %v, want %+v", got, err, want)
		}
	}
	next(part(0, 0), api.Status{Queue: 2, Parts: 3, Mapped: 1, Slices: 2})
	next(part(0, 1), api.Status{Queue: 2, Parts: 3, Mapped: 2, Slices: 2})
	next(part(0, 2), api.Status{Queue: 2, Parts: 3, Mapped: 3, Slices: 2})
	next(folding(0, 0), api.Status{Queue: 2, Parts: 3, Mapped: 3, Slices: 2, Out: 1})
	next(folding(0, 1), api.Status{Queue: 2, Parts: 3, Mapped: 3, Slices: 2, Out: 2, Done: true})
	h.out(0, []string{"4:oats 3\n", "3:hay 2\n"})
}

// programs of all kinds, early and late, of one slice to four.
func programs() []string {
	return []string{
		"count 1\neach key it val num 1\n",
		"count 3 early\neach key it val num 7\n",
		"sum 2\neach key it val len it\nkey word 1 val many\n",
		"sum 4 early\neach key it val len it\nkey word 1 val many\n",
		"least 2\neach key cut 1 it val len line\n",
		"least 3 early\neach other it \"a\" key cut 1 it val len line\n",
		"greatest 1\nkey word 0 val add many num -3\n",
		"greatest 4 early\nsame word 0 \"a\" key line val num -1\neach key it val num 2\n",
	}
}

// inputs without records, without words, and others.
func inputs() []string {
	return []string{
		"",
		"\n",
		"\n\n\n",
		"a\n",
		"a b a\nthe a\n\nc the b\nb  b\n the\na\n",
		"x\x00y \xff\n\xff\nx\x00y\n",
	}
}

// H5, W1, W5: of each key of a slice one pair, rising: by however many, in whichever parts, slots and steps.
func TestOut(t *testing.T) {
	for _, program := range programs() {
		for _, input := range inputs() {
			want := alone(t, program, input)
			for n := range 24 {
				workers, slots := 1+n%api.MaxWorkers, 1+n%api.MaxSlots
				h := open(t, wide(), workers, slots)
				h.submit(0, program, input, 1+n%9)
				for range 40 {
					for w := range workers {
						h.works(w, 1+n%3)
						h.f.Offer(w)
					}
				}
				h.toEnd(0)
				for w := range workers {
					h.works(w, 99)
					h.toEnd(w)
				}
				h.out(0, want)
			}
		}
	}
}
