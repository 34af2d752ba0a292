package queue_test

import (
	"math"
	"math/big"
	"slices"
	"testing"

	"threshfloor/api"
	"threshfloor/queue"
)

// mostSlots that a floor has.
const mostSlots = api.MaxWorkers * api.MaxSlots

// die: numbers that look drawn, the same each time.
type die uint64

func (d *die) n(most int) int {
	*d = *d*6364136223846793005 + 1442695040888963407
	return int(uint64(*d>>33) % uint64(most))
}

// F1: how many queues, and the bounds of each, either side.
func TestCheck(t *testing.T) {
	ok := api.Queue{Weight: 3, Cap: 2}
	for _, c := range []struct {
		name string
		l    []api.Queue
		want error
	}{
		{"no list", nil, api.ErrMany},
		{"none", []api.Queue{}, api.ErrMany},
		{"one", []api.Queue{ok}, nil},
		{"most", slices.Repeat([]api.Queue{ok}, api.MaxQueues), nil},
		{"too many", slices.Repeat([]api.Queue{ok}, api.MaxQueues+1), api.ErrMany},
		{"too many, and none may be", make([]api.Queue, api.MaxQueues+1), api.ErrMany},
		{"least", []api.Queue{{Weight: 1, Cap: 0}}, nil},
		{"greatest", []api.Queue{{Weight: api.MaxWeight, Cap: mostSlots}}, nil},
		{"weight 0", []api.Queue{{Weight: 0, Cap: 2}}, api.ErrBound},
		{"weight below 0", []api.Queue{{Weight: -1, Cap: 2}}, api.ErrBound},
		{"least weight that a number has", []api.Queue{{Weight: math.MinInt, Cap: 2}}, api.ErrBound},
		{"weight too great", []api.Queue{{Weight: api.MaxWeight + 1, Cap: 2}}, api.ErrBound},
		{"greatest weight that a number has", []api.Queue{{Weight: math.MaxInt, Cap: 2}}, api.ErrBound},
		{"cap below 0", []api.Queue{{Weight: 1, Cap: -1}}, api.ErrBound},
		{"least cap that a number has", []api.Queue{{Weight: 1, Cap: math.MinInt}}, api.ErrBound},
		{"cap too great", []api.Queue{{Weight: 1, Cap: mostSlots + 1}}, api.ErrBound},
		{"greatest cap that a number has", []api.Queue{{Weight: 1, Cap: math.MaxInt}}, api.ErrBound},
		{"second", []api.Queue{ok, {Weight: 0, Cap: 2}, ok}, api.ErrBound},
		{"last", []api.Queue{ok, ok, ok, {Weight: 1, Cap: -1}}, api.ErrBound},
	} {
		if got := queue.Check(c.l); got != c.want {
			t.Errorf("%s: Check(%v) = %v, want %v", c.name, c.l, got, c.want)
		}
	}
}

// F2: by hand: what one has by its weight is less, the same, more.
func TestLess(t *testing.T) {
	for _, c := range []struct {
		weight, has, otherWeight, other int
		want                            bool
	}{
		{1, 0, 1, 0, false},
		{1, 0, 1, 1, true},
		{1, 1, 1, 0, false},
		{1, 1, 1, 1, false},
		{2, 1, 1, 1, true},
		{1, 1, 2, 1, false},
		{2, 2, 1, 1, false},
		{1, 1, 2, 2, false},
		{2, 3, 1, 1, false},
		{2, 3, 1, 2, true},
		{3, 1, 2, 1, true},
		{2, 1, 3, 1, false},
		{3, 2, 2, 1, false},
		{2, 1, 3, 2, true},
		{9, 0, 1, 0, false},
		{9, 1000, 1, 111, false},
		{9, 1000, 1, 112, true},
		{9, 999, 1, 111, false},
	} {
		a, b := api.Queue{Weight: c.weight}, api.Queue{Weight: c.otherWeight}
		if got := queue.Less(a, b, c.has, c.other); got != c.want {
			t.Errorf("Less of %d by %d, and of %d by %d = %v", c.has, c.weight, c.other, c.otherWeight, got)
		}
	}
}

// F2: all weights that may be, held against fractions; Cap says nothing here.
func TestLessOfFractions(t *testing.T) {
	for w := 1; w <= api.MaxWeight; w++ {
		for v := 1; v <= api.MaxWeight; v++ {
			for has := range 15 {
				for other := range 15 {
					want := big.NewRat(int64(has), int64(w)).Cmp(big.NewRat(int64(other), int64(v))) < 0
					a, b := api.Queue{Weight: w, Cap: other}, api.Queue{Weight: v, Cap: -has}
					if got := queue.Less(a, b, has, other); got != want {
						t.Fatalf("Less of %d by %d, and of %d by %d = %v", has, w, other, v, got)
					}
				}
			}
		}
	}
}

// F2: weights as great as numbers are: nothing wraps round.
func TestLessOfGreatWeights(t *testing.T) {
	great := []int{1, 2, 9, 1 << 31, 1 << 53, 1 << 60, math.MaxInt / 2, math.MaxInt - 1, math.MaxInt}
	for _, w := range great {
		for _, v := range great {
			for _, has := range []int{0, 1, 2, 3, 999, 1000} {
				for _, other := range []int{0, 1, 2, 3, 999, 1000} {
					want := big.NewRat(int64(has), int64(w)).Cmp(big.NewRat(int64(other), int64(v))) < 0
					if got := queue.Less(api.Queue{Weight: w}, api.Queue{Weight: v}, has, other); got != want {
						t.Fatalf("Less of %d by %d, and of %d by %d = %v", has, w, other, v, got)
					}
				}
			}
		}
	}
}

// Numbers below 0 and above all bounds: each multiplied by the other one's weight, as it is.
func TestLessOfAllNumbers(t *testing.T) {
	numbers := []int{math.MinInt, math.MinInt + 1, -1 << 32, -3, -1, 0, 1, 3, 1 << 32, math.MaxInt}
	times := func(x, y int) *big.Int { return new(big.Int).Mul(big.NewInt(int64(x)), big.NewInt(int64(y))) }
	for _, w := range numbers {
		for _, v := range numbers {
			for _, has := range numbers {
				for _, other := range numbers {
					want := times(has, v).Cmp(times(other, w)) < 0
					if got := queue.Less(api.Queue{Weight: w}, api.Queue{Weight: v}, has, other); got != want {
						t.Fatalf("Less of %d by %d, and of %d by %d = %v", has, w, other, v, got)
					}
				}
			}
		}
	}
}

type turn struct {
	name  string
	l     []api.Queue
	has   []int
	wants []bool
	want  int
}

// F2: whose turn it is, by hand.
func TestPick(t *testing.T) {
	one := api.Queue{Weight: 1, Cap: 3}
	two := api.Queue{Weight: 2, Cap: 3}
	yes := []bool{true, true, true}
	for _, c := range []turn{
		{"no queues", nil, nil, nil, -1},
		{"no queues, but more is told", nil, []int{0}, yes, -1},
		{"one", []api.Queue{one}, []int{0}, yes[:1], 0},
		{"one that wants nothing", []api.Queue{one}, []int{0}, []bool{false}, -1},
		{"one that may have one more", []api.Queue{one}, []int{2}, yes[:1], 0},
		{"one that has all it may", []api.Queue{one}, []int{3}, yes[:1], -1},
		{"one that has more than it may", []api.Queue{one}, []int{4}, yes[:1], -1},
		{"one that may have none", []api.Queue{{Weight: 9, Cap: 0}}, []int{0}, yes[:1], -1},
		{"the first of those that have the same", []api.Queue{one, one, one}, []int{1, 1, 1}, yes, 0},
		{"least at first", []api.Queue{one, one, one}, []int{0, 1, 1}, yes, 0},
		{"least in between", []api.Queue{one, one, one}, []int{2, 1, 2}, yes, 1},
		{"least at last", []api.Queue{one, one, one}, []int{2, 1, 0}, yes, 2},
		{"the first of two that have least", []api.Queue{one, one, one}, []int{2, 1, 1}, yes, 1},
		{"what it weighs", []api.Queue{one, two, one}, []int{1, 1, 1}, yes, 1},
		{"the same by what it weighs", []api.Queue{one, two}, []int{1, 2}, yes[:2], 0},
		{"the same by what it weighs, the other way round", []api.Queue{two, one}, []int{2, 1}, yes[:2], 0},
		{"nothing, whatever it weighs", []api.Queue{one, {Weight: 9, Cap: 3}}, []int{0, 0}, yes[:2], 0},
		{"least wants nothing", []api.Queue{one, one, one}, []int{2, 0, 1}, []bool{true, false, true}, 2},
		{"least may have no more", []api.Queue{one, {Weight: 9, Cap: 1}, one}, []int{2, 1, 2}, yes, 0},
		{"none wants", []api.Queue{one, two, one}, []int{0, 0, 0}, make([]bool, 3), -1},
		{"none may", []api.Queue{one, two, one}, []int{3, 3, 3}, yes, -1},
		{"more is told than there are", []api.Queue{two}, []int{2, 0, 0}, yes, 0},
		{"one of which isn't told that it wants", []api.Queue{one, one}, []int{1, 0}, yes[:1], 0},
		{"one of which isn't told what it has", []api.Queue{one, one}, []int{1}, yes[:2], 0},
		{"nothing is told of wants", []api.Queue{one, one}, []int{1, 0}, nil, -1},
		{"nothing is told of what they have", []api.Queue{one, one}, nil, yes[:2], -1},
		{"a weight without bounds", []api.Queue{one, {Weight: math.MaxInt, Cap: math.MaxInt}}, []int{1, 1000}, yes[:2], 1},
		{"a cap below 0", []api.Queue{{Weight: 1, Cap: -1}}, []int{0}, yes[:1], -1},
	} {
		if got := queue.Pick(c.l, c.has, c.wants); got != c.want {
			t.Errorf("%s: Pick(%v, %v, %v) = %d, want %d", c.name, c.l, c.has, c.wants, got, c.want)
		}
	}
}

// slowly: by fractions: what Pick is held against.
func slowly(l []api.Queue, has []int, wants []bool) int {
	best := -1
	var least *big.Rat
	for i, q := range l {
		if !wants[i] || has[i] >= q.Cap {
			continue
		}
		if part := big.NewRat(int64(has[i]), int64(q.Weight)); best < 0 || part.Cmp(least) < 0 {
			best, least = i, part
		}
	}
	return best
}

// F2: many queues.
func TestPickOfDrawnQueues(t *testing.T) {
	d := die(1)
	for range 3000 {
		var l []api.Queue
		var has []int
		var wants []bool
		for range d.n(6) {
			l = append(l, api.Queue{Weight: 1 + d.n(api.MaxWeight), Cap: d.n(mostSlots + 1)})
			has, wants = append(has, d.n(mostSlots)), append(wants, d.n(5) > 0)
		}
		if got, want := queue.Pick(l, has, wants), slowly(l, has, wants); got != want {
			t.Fatalf("Pick(%v, %v, %v) = %d, want %d", l, has, wants, got, want)
		}
	}
}

// W4: slots that are given one by one to whose turn it is: no queue has more than its Cap, nor, by what it weighs, more than one slot more than another one that wants as much and may have more.
func TestTurnsAreFair(t *testing.T) {
	d := die(2)
	for range 300 {
		var l []api.Queue
		var wants []bool
		for range 1 + d.n(api.MaxQueues) {
			l = append(l, api.Queue{Weight: 1 + d.n(api.MaxWeight), Cap: d.n(mostSlots + 1)})
			wants = append(wants, d.n(5) > 0)
		}
		has := make([]int, len(l))
		for i := queue.Pick(l, has, wants); i >= 0; i = queue.Pick(l, has, wants) {
			has[i]++
			if !wants[i] || has[i] > l[i].Cap {
				t.Fatalf("%v: a slot for queue %d, that has %v then", l, i, has)
			}
			for k, q := range l {
				if wants[k] && has[k] < q.Cap && (has[i]-1)*q.Weight > has[k]*l[i].Weight {
					t.Fatalf("%v: queue %d has too many: %v", l, i, has)
				}
			}
		}
		for i, q := range l {
			if wants[i] && has[i] != q.Cap || !wants[i] && has[i] != 0 {
				t.Fatalf("%v, %v: they have %v in the end", l, wants, has)
			}
		}
	}
}

// Z1: no panic, and an end, at queues that may not be, and all numbers.
func TestPickEnds(t *testing.T) {
	numbers := []int{math.MinInt, -1, 0, 1, math.MaxInt}
	for _, w := range numbers {
		for _, v := range numbers {
			for _, has := range numbers {
				for _, other := range numbers {
					l := []api.Queue{{Weight: w, Cap: math.MaxInt}, {Weight: v, Cap: math.MaxInt}, {Weight: -w}}
					if got := queue.Pick(l, []int{has, other, has}, []bool{true, true, true}); got < -1 || got >= len(l) {
						t.Fatalf("Pick(%v, %d, %d) = %d", l, has, other, got)
					}
				}
			}
		}
	}
}

// Z2: no list is written into, nor is what stands behind it read.
func TestLists(t *testing.T) {
	l := []api.Queue{{Weight: 1, Cap: 3}, {Weight: 2, Cap: 3}, {Weight: 0, Cap: -9}}
	has, wants := []int{1, 3, 0}, []bool{true, true, true}
	keptQueues, keptHas, keptWants := slices.Clone(l), slices.Clone(has), slices.Clone(wants)
	if err := queue.Check(l[:2]); err != nil {
		t.Errorf("Check = %v: it looked behind the list", err)
	}
	for _, c := range []struct{ queues, has, wants int }{{2, 2, 2}, {3, 1, 3}, {1, 3, 3}, {2, 3, 1}} {
		if got := queue.Pick(l[:c.queues], has[:c.has], wants[:c.wants]); got != 0 {
			t.Errorf("Pick of %v = %d, want 0", c, got)
		}
	}
	if !slices.Equal(l, keptQueues) || !slices.Equal(has, keptHas) || !slices.Equal(wants, keptWants) {
		t.Errorf("left %v, %v, %v", l, has, wants)
	}
}
