package tasks_test

import (
	"math"
	"slices"
	"testing"

	"threshfloor/api"
	"threshfloor/tasks"
)

// start tasks that may be.
func start(t *testing.T, parts, slices int) *tasks.Tasks {
	t.Helper()
	x, err := tasks.New(parts, slices)
	if err != nil || x == nil {
		t.Fatalf("New(%d, %d) = %v, %v", parts, slices, x, err)
	}
	return x
}

// must be without an error.
func must(t *testing.T, err error) {
	t.Helper()
	if err != nil {
		t.Fatal(err)
	}
}

// finish a task that isn't Done.
func finish(t *testing.T, x *tasks.Tasks, fold bool, i, worker int) {
	t.Helper()
	if first, err := x.Finish(fold, i, worker); !first || err != nil {
		t.Fatalf("Finish(%v, %d, %d) = %v, %v", fold, i, worker, first, err)
	}
}

// finishAll parts, or slices, that aren't Done.
func finishAll(x *tasks.Tasks, fold bool, many, worker int) {
	for i := range many {
		x.Finish(fold, i, worker)
	}
}

// stateIs that of a task.
func stateIs(t *testing.T, x *tasks.Tasks, fold bool, i, want int) {
	t.Helper()
	if got, err := x.State(fold, i); got != want || err != nil {
		t.Errorf("State(%v, %d) = %d, %v, want %d", fold, i, got, err, want)
	}
}

// nextIs that task.
func nextIs(t *testing.T, x *tasks.Tasks, fold bool, i int) {
	t.Helper()
	if f, k, ok := x.Next(); f != fold || k != i || !ok {
		t.Errorf("Next = %v, %d, %v, want %v, %d", f, k, ok, fold, i)
	}
}

// noNext: there is none, and nothing beside that.
func noNext(t *testing.T, x *tasks.Tasks) {
	t.Helper()
	if f, k, ok := x.Next(); f || k != 0 || ok {
		t.Errorf("Next = %v, %d, %v, want none", f, k, ok)
	}
}

// countIs so many, of so many parts and slices.
func countIs(t *testing.T, x *tasks.Tasks, mapped, out int, allMapped, allOut bool) {
	t.Helper()
	if m, o := x.Count(); m != mapped || o != out {
		t.Errorf("Count = %d, %d, want %d, %d", m, o, mapped, out)
	}
	if x.Mapped() != allMapped || x.Out() != allOut {
		t.Errorf("Mapped, Out = %v, %v, want %v, %v", x.Mapped(), x.Out(), allMapped, allOut)
	}
}

// G3: bounds of parts and slices, either side of each.
func TestNew(t *testing.T) {
	for _, c := range []struct {
		parts, slices int
		want          error
	}{
		{0, 1, nil},
		{1, 1, nil},
		{3, 2, nil},
		{api.MaxRecords, api.MaxSlices, nil},
		{-1, 1, api.ErrBound},
		{api.MaxRecords + 1, 1, api.ErrBound},
		{1, 0, api.ErrBound},
		{1, -1, api.ErrBound},
		{1, api.MaxSlices + 1, api.ErrBound},
		{-1, 0, api.ErrBound},
		{math.MaxInt, 1, api.ErrBound},
		{math.MinInt, 1, api.ErrBound},
		{1, math.MaxInt, api.ErrBound},
		{1, math.MinInt, api.ErrBound},
	} {
		x, err := tasks.New(c.parts, c.slices)
		if err != c.want || (x == nil) != (err != nil) {
			t.Errorf("New(%d, %d) = %v, %v, want %v", c.parts, c.slices, x, err, c.want)
		}
	}
}

// G3: a task of each part and of each slice, all of them Waiting, and no others.
func TestState(t *testing.T) {
	for _, c := range []struct{ parts, slices int }{{0, 1}, {1, 4}, {5, 2}, {api.MaxRecords, api.MaxSlices}} {
		x := start(t, c.parts, c.slices)
		for i := range c.parts {
			stateIs(t, x, false, i, api.Waiting)
		}
		for i := range c.slices {
			stateIs(t, x, true, i, api.Waiting)
		}
		for _, fold := range []bool{false, true} {
			many := c.parts
			if fold {
				many = c.slices
			}
			finishAll(x, fold, many, 1) // so that no state is 0, as it is beside an error
			for _, i := range []int{-1, many, many + 1, math.MinInt, math.MaxInt} {
				if got, err := x.State(fold, i); got != 0 || err != api.ErrNone {
					t.Errorf("State(%v, %d) of %v = %d, %v", fold, i, c, got, err)
				}
			}
		}
	}
}

// G3: how many are Done, and whether all are; those that are Running don't count.
func TestCount(t *testing.T) {
	x := start(t, 2, 2)
	countIs(t, x, 0, 0, false, false)
	must(t, x.Begin(false, 0))
	must(t, x.Begin(false, 1))
	countIs(t, x, 0, 0, false, false)
	finish(t, x, false, 1, 0)
	countIs(t, x, 1, 0, false, false)
	finish(t, x, false, 0, 0)
	countIs(t, x, 2, 0, true, false)
	must(t, x.Begin(true, 0))
	countIs(t, x, 2, 0, true, false)
	finish(t, x, true, 1, 0)
	countIs(t, x, 2, 1, true, false)
	finish(t, x, true, 0, 0)
	countIs(t, x, 2, 2, true, true)
	x.Lose(0)
	countIs(t, x, 0, 2, false, true)
}

// G3: where there are no parts, all of them are Mapped.
func TestCountWithoutParts(t *testing.T) {
	x := start(t, 0, 1)
	countIs(t, x, 0, 0, true, false)
	nextIs(t, x, true, 0)
	finish(t, x, true, 0, 0)
	countIs(t, x, 0, 1, true, true)
	noNext(t, x)
}

// G4: parts in their order, then, when all are Mapped, slices in theirs.
func TestNext(t *testing.T) {
	x := start(t, 3, 2)
	nextIs(t, x, false, 0)
	nextIs(t, x, false, 0) // asking changes nothing
	must(t, x.Begin(false, 0))
	nextIs(t, x, false, 1)
	must(t, x.Begin(false, 1))
	must(t, x.Begin(false, 2))
	noNext(t, x) // all run, none waits
	must(t, x.Wait(false, 1))
	nextIs(t, x, false, 1)
	must(t, x.Wait(false, 0))
	nextIs(t, x, false, 0)
	finishAll(x, false, 2, 0)
	noNext(t, x) // one still runs: no slice yet
	finish(t, x, false, 2, 0)
	nextIs(t, x, true, 0)
	must(t, x.Begin(true, 0))
	nextIs(t, x, true, 1)
	must(t, x.Begin(true, 1))
	noNext(t, x)
	must(t, x.Wait(true, 0))
	nextIs(t, x, true, 0)
	finishAll(x, true, 2, 0)
	noNext(t, x)
}

// G4: a part that is lost comes ahead of slices, until all of these are Out: then there is nothing any more.
func TestNextOfLost(t *testing.T) {
	x := start(t, 2, 2)
	finish(t, x, false, 0, 0)
	finish(t, x, false, 1, 1)
	must(t, x.Begin(true, 0))
	x.Lose(1)
	nextIs(t, x, false, 1)
	must(t, x.Begin(false, 1))
	noNext(t, x) // a slice waits, but not all parts are Mapped
	finish(t, x, true, 0, 0)
	noNext(t, x)
	finish(t, x, false, 1, 0)
	nextIs(t, x, true, 1)
	x.Lose(0)
	nextIs(t, x, false, 0)
	finish(t, x, true, 1, 0)
	noNext(t, x)
}

// G4: slices that are Out while no part is Mapped, as a journal may have it.
func TestNextOfOut(t *testing.T) {
	x := start(t, 1, 2)
	finish(t, x, true, 0, 0)
	nextIs(t, x, false, 0)
	finish(t, x, false, 0, 0)
	nextIs(t, x, true, 1)
	y := start(t, 1, 2)
	finishAll(y, true, 2, 0)
	noNext(t, y)
}

// G5: of tasks that there are not; nothing changes.
func TestNone(t *testing.T) {
	x := start(t, 2, 1)
	for _, c := range []struct {
		fold bool
		i    int
	}{{false, -1}, {false, 2}, {true, -1}, {true, 1}, {false, math.MaxInt}, {true, math.MinInt}} {
		if err := x.Begin(c.fold, c.i); err != api.ErrNone {
			t.Errorf("Begin(%v) = %v", c, err)
		}
		if err := x.Wait(c.fold, c.i); err != api.ErrNone {
			t.Errorf("Wait(%v) = %v", c, err)
		}
		if first, err := x.Finish(c.fold, c.i, 0); first || err != api.ErrNone {
			t.Errorf("Finish(%v) = %v, %v", c, first, err)
		}
	}
	countIs(t, x, 0, 0, false, false)
	nextIs(t, x, false, 0)
	if l := x.Lose(0); len(l) != 0 {
		t.Errorf("Lose = %v", l)
	}
}

// G5: what may be begun: a part that isn't Done, also twice; a slice, if all parts are Mapped, too.
func TestBegin(t *testing.T) {
	x := start(t, 2, 2)
	refused := func(fold bool, i, state int) {
		t.Helper()
		if err := x.Begin(fold, i); err != api.ErrState {
			t.Errorf("Begin(%v, %d) = %v, want %v", fold, i, err, api.ErrState)
		}
		stateIs(t, x, fold, i, state)
	}
	refused(true, 0, api.Waiting)
	for range 2 {
		must(t, x.Begin(false, 1))
		stateIs(t, x, false, 1, api.Running)
	}
	stateIs(t, x, false, 0, api.Waiting)
	stateIs(t, x, true, 1, api.Waiting)
	finish(t, x, false, 1, 0)
	refused(false, 1, api.Done)
	refused(true, 0, api.Waiting)
	finish(t, x, false, 0, 1)
	for range 2 {
		must(t, x.Begin(true, 1))
		stateIs(t, x, true, 1, api.Running)
	}
	stateIs(t, x, true, 0, api.Waiting)
	x.Lose(1)
	refused(true, 1, api.Running) // though it runs: not all are Mapped any more
	refused(true, 0, api.Waiting)
	must(t, x.Begin(false, 0))
	finish(t, x, true, 1, 1)
	refused(true, 1, api.Done)
}

// G5: one that is Running waits; others stay as they are.
func TestWait(t *testing.T) {
	x := start(t, 2, 2)
	for _, fold := range []bool{false, true} {
		must(t, x.Wait(fold, 0))
		stateIs(t, x, fold, 0, api.Waiting)
		must(t, x.Begin(fold, 0))
		must(t, x.Begin(fold, 1))
		must(t, x.Wait(fold, 0))
		stateIs(t, x, fold, 0, api.Waiting)
		stateIs(t, x, fold, 1, api.Running)
		finishAll(x, fold, 2, 3)
		must(t, x.Wait(fold, 0))
		stateIs(t, x, fold, 0, api.Done)
	}
	if l := x.Lose(3); !slices.Equal(l, []int{0, 1}) {
		t.Errorf("Lose = %v: a part that is Done is who mapped it's, whatever waits", l)
	}
}

// G5: whoever is the first one counts, from whichever state.
func TestFinish(t *testing.T) {
	x := start(t, 2, 2)
	again := func(fold bool, i, worker int) {
		t.Helper()
		if first, err := x.Finish(fold, i, worker); first || err != nil {
			t.Errorf("Finish(%v, %d, %d) again = %v, %v", fold, i, worker, first, err)
		}
		stateIs(t, x, fold, i, api.Done)
	}
	finish(t, x, true, 1, 0) // waits, and not all are Mapped
	stateIs(t, x, true, 1, api.Done)
	again(true, 1, 2)
	finish(t, x, false, 0, 1) // waits
	stateIs(t, x, false, 0, api.Done)
	again(false, 0, 1)
	must(t, x.Begin(false, 1))
	finish(t, x, false, 1, 0) // runs
	again(false, 1, 2)
	stateIs(t, x, true, 0, api.Waiting)
	if l := x.Lose(2); len(l) != 0 {
		t.Errorf("Lose = %v of a worker who was late", l)
	}
	if l := x.Lose(0); !slices.Equal(l, []int{1}) {
		t.Errorf("Lose = %v of a worker who was the first one", l)
	}
}

// G5: parts that are Done by that worker, rising; no one else's, none twice, and no slices.
func TestLose(t *testing.T) {
	x := start(t, 6, 2)
	lost := func(worker int, want ...int) {
		t.Helper()
		if got := x.Lose(worker); !slices.Equal(got, want) {
			t.Errorf("Lose(%d) = %v, want %v", worker, got, want)
		}
	}
	lost(0) // nothing is Done by anyone
	must(t, x.Begin(false, 1))
	lost(0) // what runs isn't either
	stateIs(t, x, false, 1, api.Running)
	for _, c := range []struct{ i, worker int }{{4, 0}, {0, 0}, {3, 1}, {2, 0}} {
		finish(t, x, false, c.i, c.worker)
	}
	finish(t, x, true, 0, 0)
	lost(2)
	lost(0, 0, 2, 4)
	countIs(t, x, 1, 1, false, false)
	for i, want := range []int{api.Waiting, api.Running, api.Waiting, api.Done, api.Waiting, api.Waiting} {
		stateIs(t, x, false, i, want)
	}
	stateIs(t, x, true, 0, api.Done)
	lost(0)
	finish(t, x, false, 2, 1)
	lost(0)
	lost(1, 2, 3)
	for _, worker := range []int{-1, math.MinInt, math.MaxInt} { // any number may be a worker's
		lost(worker)
		finish(t, x, false, 5, worker)
		lost(worker, 5)
	}
}

// Z2: what Lose answers is the caller's; tasks of two jobs have nothing in common.
func TestApart(t *testing.T) {
	x, y := start(t, 3, 1), start(t, 3, 1)
	finishAll(x, false, 3, 0)
	countIs(t, y, 0, 0, false, false)
	l := x.Lose(0)
	for i := range l {
		l[i] = 99
	}
	_ = append(l, 99)
	finishAll(x, false, 2, 0)
	if got := x.Lose(0); !slices.Equal(got, []int{0, 1}) {
		t.Errorf("Lose = %v", got)
	}
}

// die: numbers that look drawn, the same each time.
type die uint64

func (d *die) n(most int) int {
	*d = *d*6364136223846793005 + 1442695040888963407
	return int(uint64(*d>>33) % uint64(most))
}

// W1: whatever happens, when nobody falls any more, what Next tells leads to all being Out; what is Out stays so.
func TestComesToBeOut(t *testing.T) {
	d := die(1)
	for range 200 {
		parts, slices := d.n(7), 1+d.n(api.MaxSlices)
		x := start(t, parts, slices)
		out := 0
		for range d.n(60) {
			fold, i, worker := d.n(2) == 0, d.n(8)-1, d.n(3)
			switch d.n(5) {
			case 0:
				x.Begin(fold, i)
			case 1:
				x.Wait(fold, i)
			case 2:
				if !fold || x.Mapped() {
					x.Finish(fold, i, worker)
				}
			case 3:
				x.Lose(worker)
			default:
				if fold, i, ok := x.Next(); ok {
					must(t, x.Begin(fold, i))
				}
			}
			_, now := x.Count()
			if now < out {
				t.Fatalf("%d slices are Out, %d were", now, out)
			}
			out = now
		}
		for i := range parts {
			must(t, x.Wait(false, i))
		}
		for i := range slices {
			must(t, x.Wait(true, i))
		}
		for range parts + slices {
			if fold, i, ok := x.Next(); ok {
				must(t, x.Begin(fold, i))
				finish(t, x, fold, i, 0)
			}
		}
		if !x.Out() {
			t.Fatalf("of %d parts and %d slices not all are Out", parts, slices)
		}
		noNext(t, x)
	}
}
