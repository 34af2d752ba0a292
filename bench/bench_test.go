package bench_test

import (
	"math"
	"slices"
	"testing"

	"threshfloor/api"
	"threshfloor/bench"
)

// start a bench that may be.
func start(t *testing.T, workers, slots int) *bench.Bench {
	t.Helper()
	b, err := bench.New(workers, slots)
	if err != nil || b == nil {
		t.Fatalf("New(%d, %d) = %v, %v", workers, slots, b, err)
	}
	return b
}

// put a task into a slot that is free.
func put(t *testing.T, b *bench.Bench, w, s int, x api.Task) {
	t.Helper()
	if err := b.Put(at(w, s), x); err != nil {
		t.Fatalf("Put(%d, %d) = %v", w, s, err)
	}
}

func at(w, s int) api.Place { return api.Place{Worker: w, Slot: s} }

func fold(job, i int) api.Task { return api.Task{Job: job, Fold: true, Index: i} }

func part(job, i int) api.Task { return api.Task{Job: job, Index: i} }

// inIs: what a slot has.
func inIs(t *testing.T, b *bench.Bench, w, s int, want api.Task, wrong error) {
	t.Helper()
	if got, err := b.In(at(w, s)); got != want || err != wrong {
		t.Errorf("In(%d, %d) = %v, %v, want %v, %v", w, s, got, err, want, wrong)
	}
}

// roomIs: which slot of a worker is the first one that is free.
func roomIs(t *testing.T, b *bench.Bench, w, s int) {
	t.Helper()
	if got, err := b.Room(w); got != at(w, s) || err != nil {
		t.Errorf("Room(%d) = %v, %v, want slot %d", w, got, err, s)
	}
}

// noRoom of a worker.
func noRoom(t *testing.T, b *bench.Bench, w int, wrong error) {
	t.Helper()
	if got, err := b.Room(w); got != (api.Place{}) || err != wrong {
		t.Errorf("Room(%d) = %v, %v, want %v", w, got, err, wrong)
	}
}

// G6: bounds of workers and slots, either side of each; Size tells both.
func TestNew(t *testing.T) {
	for w := -1; w <= api.MaxWorkers+1; w++ {
		for s := -1; s <= api.MaxSlots+1; s++ {
			b, err := bench.New(w, s)
			if w < 1 || w > api.MaxWorkers || s < 1 || s > api.MaxSlots {
				if b != nil || err != api.ErrBound {
					t.Errorf("New(%d, %d) = %v, %v, want %v", w, s, b, err, api.ErrBound)
				}
				continue
			}
			if err != nil || b == nil {
				t.Fatalf("New(%d, %d) = %v, %v", w, s, b, err)
			}
			if x, y := b.Size(); x != w || y != s {
				t.Errorf("Size = %d, %d, want %d, %d", x, y, w, s)
			}
		}
	}
	for _, n := range []int{math.MinInt, math.MaxInt} {
		if b, err := bench.New(n, 1); b != nil || err != api.ErrBound {
			t.Errorf("New(%d, 1) = %v, %v", n, b, err)
		}
		if b, err := bench.New(1, n); b != nil || err != api.ErrBound {
			t.Errorf("New(1, %d) = %v, %v", n, b, err)
		}
	}
}

// wrongPlaces of a bench of two workers with three slots each.
func wrongPlaces() []api.Place {
	return []api.Place{at(-1, 0), at(2, 0), at(0, -1), at(0, 3), at(1, 3), at(1, -1), at(-1, 3), at(2, -3), at(3, 2), at(math.MinInt, 0), at(0, math.MinInt), at(math.MaxInt, math.MaxInt), at(math.MaxInt/3+1, 0)}
}

// G6: each worker has each slot, and they are free; there are no others.
func TestSlotsAreFree(t *testing.T) {
	for w := 1; w <= api.MaxWorkers; w++ {
		for s := 1; s <= api.MaxSlots; s++ {
			b := start(t, w, s)
			for i := -1; i <= api.MaxWorkers; i++ {
				if i < 0 || i >= w {
					noRoom(t, b, i, api.ErrNone)
				} else {
					roomIs(t, b, i, 0)
				}
				for k := -1; k <= api.MaxSlots; k++ {
					wrong := api.ErrState
					if i < 0 || i >= w || k < 0 || k >= s {
						wrong = api.ErrNone
					}
					inIs(t, b, i, k, api.Task{}, wrong)
				}
			}
			if b.Runs(api.Task{}) {
				t.Error("the zero task is in a slot that is free")
			}
		}
	}
}

// G6: a worker's first slot that is free, whatever others have.
func TestRoom(t *testing.T) {
	b := start(t, 3, 3)
	x := part(0, 0) // the zero task, which takes a slot as others do
	put(t, b, 1, 0, x)
	roomIs(t, b, 0, 0)
	roomIs(t, b, 1, 1)
	put(t, b, 1, 2, x)
	roomIs(t, b, 1, 1)
	put(t, b, 1, 1, x)
	noRoom(t, b, 1, api.ErrFull)
	roomIs(t, b, 0, 0)
	roomIs(t, b, 2, 0)
	b.Free(at(1, 2))
	roomIs(t, b, 1, 2)
	b.Free(at(1, 1))
	roomIs(t, b, 1, 1)
	for _, w := range []int{-1, 3, math.MinInt, math.MaxInt} {
		noRoom(t, b, w, api.ErrNone)
	}
}

// G6, G7: what is put into a slot is in it, and in no other; a place has one task at a time.
func TestPut(t *testing.T) {
	b := start(t, 2, 3)
	put(t, b, 1, 0, fold(2, 1))
	inIs(t, b, 1, 0, fold(2, 1), nil)
	for _, p := range []api.Place{at(0, 0), at(0, 1), at(0, 2), at(1, 1), at(1, 2)} {
		inIs(t, b, p.Worker, p.Slot, api.Task{}, api.ErrState)
	}
	for _, x := range []api.Task{part(0, 0), fold(2, 1)} {
		if err := b.Put(at(1, 0), x); err != api.ErrFull {
			t.Errorf("Put of %v into a slot that isn't free = %v", x, err)
		}
		inIs(t, b, 1, 0, fold(2, 1), nil)
	}
	put(t, b, 0, 1, part(0, 0))
	inIs(t, b, 0, 1, part(0, 0), nil)
	if err := b.Put(at(0, 1), part(1, 1)); err != api.ErrFull {
		t.Errorf("Put into a slot with the zero task = %v", err)
	}
	put(t, b, 0, 2, fold(2, 1)) // one task may be in two slots
	odd := api.Task{Job: math.MinInt, Fold: true, Index: math.MaxInt}
	put(t, b, 0, 0, odd)
	inIs(t, b, 0, 0, odd, nil)
}

// G7: what was in a slot is told, and it is free; others stay as they are.
func TestFree(t *testing.T) {
	b := start(t, 2, 3)
	put(t, b, 0, 2, fold(1, 3))
	put(t, b, 1, 2, part(4, 5))
	if x, err := b.Free(at(0, 2)); x != fold(1, 3) || err != nil {
		t.Errorf("Free = %v, %v", x, err)
	}
	inIs(t, b, 0, 2, api.Task{}, api.ErrState)
	inIs(t, b, 1, 2, part(4, 5), nil)
	for _, p := range []api.Place{at(0, 2), at(0, 0)} {
		if x, err := b.Free(p); x != (api.Task{}) || err != api.ErrState {
			t.Errorf("Free(%v) of a slot that is free = %v, %v", p, x, err)
		}
	}
	put(t, b, 0, 2, part(0, 0))
	if x, err := b.Free(at(0, 2)); x != (api.Task{}) || err != nil {
		t.Errorf("Free of the zero task = %v, %v", x, err)
	}
	inIs(t, b, 0, 2, api.Task{}, api.ErrState)
}

// G6, G7: slots that there are not; nothing changes.
func TestNone(t *testing.T) {
	b := start(t, 2, 3)
	for _, p := range wrongPlaces() {
		inIs(t, b, p.Worker, p.Slot, api.Task{}, api.ErrNone)
		if err := b.Put(p, part(1, 1)); err != api.ErrNone {
			t.Errorf("Put(%v) = %v", p, err)
		}
		if x, err := b.Free(p); x != (api.Task{}) || err != api.ErrNone {
			t.Errorf("Free(%v) = %v, %v", p, x, err)
		}
	}
	if b.Runs(part(1, 1)) {
		t.Error("a task is in a slot that there is not")
	}
	for w := range 2 {
		roomIs(t, b, w, 0)
	}
}

// G7: a task is in some slot, until it is in none; those that differ by little are others.
func TestRuns(t *testing.T) {
	b := start(t, 2, 2)
	put(t, b, 1, 1, fold(2, 1))
	put(t, b, 0, 1, fold(2, 1))
	for _, x := range []api.Task{{}, part(2, 1), fold(1, 1), fold(2, 0), fold(2, 2), fold(-2, 1)} {
		if b.Runs(x) {
			t.Errorf("Runs(%v)", x)
		}
	}
	for _, p := range []api.Place{at(0, 1), at(1, 1)} {
		if !b.Runs(fold(2, 1)) {
			t.Error("it isn't in a slot any more, but nobody freed this one")
		}
		b.Free(p)
	}
	if b.Runs(fold(2, 1)) {
		t.Error("it is in a slot still")
	}
	put(t, b, 0, 0, part(0, 0))
	if !b.Runs(api.Task{}) {
		t.Error("the zero task is in no slot")
	}
}

// G7: by the jobs of tasks, which are taken to numbers; to those from 0 on and below many just.
func TestCount(t *testing.T) {
	b := start(t, 3, 3)
	it := func(job int) int { return job }
	if got := b.Count(2, it); !slices.Equal(got, []int{0, 0}) {
		t.Errorf("Count of a bench without tasks = %v", got)
	}
	for i, x := range []api.Task{part(0, 0), fold(0, 0), part(2, 1), fold(2, 1), part(2, 1), fold(3, 0), part(-1, 0)} {
		put(t, b, i%3, i/3, x)
	}
	for _, c := range []struct {
		name  string
		many  int
		which func(job int) int
		want  []int
	}{
		{"each job", 4, it, []int{2, 0, 3, 1}},
		{"more than there are", 6, it, []int{2, 0, 3, 1, 0, 0}},
		{"fewer", 3, it, []int{2, 0, 3}},
		{"one", 1, it, []int{2}},
		{"none", 0, it, nil},
		{"below 0", -1, it, nil},
		{"far below 0", math.MinInt, it, nil},
		{"two jobs as one", 2, func(job int) int { return job / 2 }, []int{3, 4}},
		{"all as one", 3, func(job int) int { return 1 }, []int{0, 7, 0}},
		{"none to any", 3, func(job int) int { return -1 }, []int{0, 0, 0}},
		{"all to the first number too many", 3, func(job int) int { return 3 }, []int{0, 0, 0}},
		{"far away", 3, func(job int) int { return []int{math.MinInt, math.MaxInt}[job&1] }, []int{0, 0, 0}},
		{"one ahead", 4, func(job int) int { return job + 1 }, []int{1, 2, 0, 3}},
	} {
		if got := b.Count(c.many, c.which); !slices.Equal(got, c.want) {
			t.Errorf("%s: Count(%d) = %v, want %v", c.name, c.many, got, c.want)
		}
	}
	b.Free(at(0, 0))
	if got := b.Count(4, it); !slices.Equal(got, []int{1, 0, 3, 1}) {
		t.Errorf("Count behind a Free = %v", got)
	}
}

// Z1: a function that is nil, or that panics, takes a job nowhere; nor does an answer that is too long panic.
func TestCountDoesNotPanic(t *testing.T) {
	b := start(t, 1, 2)
	put(t, b, 0, 0, part(0, 0))
	put(t, b, 0, 1, part(1, 0))
	if got := b.Count(2, nil); !slices.Equal(got, []int{0, 0}) {
		t.Errorf("Count by no function = %v", got)
	}
	one := func(job int) int { return []int{0}[job] }
	if got := b.Count(2, one); !slices.Equal(got, []int{1, 0}) {
		t.Errorf("Count by a function that panics at job 1 = %v", got)
	}
	for _, many := range []int{math.MaxInt32 + 1, math.MaxInt} {
		b.Count(many, one)
	}
}

// Z2: slots are counted as they were when Count was called, whatever which does to them.
func TestCountOfWhatIsFreed(t *testing.T) {
	b := start(t, 1, 3)
	put(t, b, 0, 0, part(0, 0))
	put(t, b, 0, 2, part(0, 1))
	got := b.Count(2, func(job int) int {
		b.Free(at(0, 2))
		b.Put(at(0, 1), part(1, 0))
		return job
	})
	if !slices.Equal(got, []int{2, 0}) {
		t.Errorf("Count = %v, want [2 0]", got)
	}
	if b.Runs(part(0, 1)) || !b.Runs(part(1, 0)) {
		t.Error("what was freed and put while counting is undone")
	}
}

// Z2: what Count answers is the caller's; two benches have nothing in common.
func TestApart(t *testing.T) {
	a, b := start(t, 1, 1), start(t, 1, 1)
	put(t, a, 0, 0, part(1, 2))
	inIs(t, b, 0, 0, api.Task{}, api.ErrState)
	zero := func(int) int { return 0 }
	l := a.Count(1, zero)
	l[0] = 99
	if got := a.Count(1, zero); !slices.Equal(got, []int{1}) {
		t.Errorf("Count = %v", got)
	}
}

// die: numbers that look drawn, the same each time.
type die uint64

func (d *die) n(most int) int {
	*d = *d*6364136223846793005 + 1442695040888963407
	return int(uint64(*d>>33) % uint64(most))
}

// G6, G7: many acts, held against a map of places.
func TestActs(t *testing.T) {
	d := die(1)
	for range 50 {
		workers, slots := 1+d.n(api.MaxWorkers), 1+d.n(api.MaxSlots)
		b, in := start(t, workers, slots), map[api.Place]api.Task{}
		for range 100 {
			p, x := at(d.n(workers), d.n(slots)), api.Task{Job: d.n(3), Fold: d.n(2) == 0, Index: d.n(2)}
			was, taken := in[p]
			if d.n(2) == 0 {
				if err := b.Put(p, x); (err == nil) == taken {
					t.Fatalf("Put(%v) = %v, taken: %v", p, err, taken)
				}
				if !taken {
					in[p] = x
				}
			} else {
				if y, err := b.Free(p); y != was || (err == nil) != taken {
					t.Fatalf("Free(%v) = %v, %v, had %v", p, y, err, was)
				}
				delete(in, p)
			}
			sameAs(t, b, in)
		}
	}
}

// sameAs: has a bench what a map has?
func sameAs(t *testing.T, b *bench.Bench, in map[api.Place]api.Task) {
	t.Helper()
	workers, slots := b.Size()
	runs, counts := map[api.Task]bool{}, make([]int, 3)
	for w := range workers {
		room := -1
		for s := range slots {
			x, taken := in[at(w, s)]
			if y, err := b.In(at(w, s)); y != x || (err == nil) != taken {
				t.Fatalf("In(%d, %d) = %v, %v, want %v", w, s, y, err, x)
			}
			if taken {
				runs[x] = true
				counts[x.Job]++
			} else if room < 0 {
				room = s
			}
		}
		if room < 0 {
			noRoom(t, b, w, api.ErrFull)
		} else {
			roomIs(t, b, w, room)
		}
	}
	for i := range 3 * 2 * 2 {
		x := api.Task{Job: i / 4, Fold: i%4 > 1, Index: i % 2}
		if b.Runs(x) != runs[x] {
			t.Fatalf("Runs(%v) = %v", x, !runs[x])
		}
	}
	if got := b.Count(3, func(job int) int { return job }); !slices.Equal(got, counts) {
		t.Fatalf("Count = %v, want %v", got, counts)
	}
}
