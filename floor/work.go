package floor

import (
	"iter"

	"threshfloor/api"
	"threshfloor/folder"
	"threshfloor/job"
	"threshfloor/mapper"
	"threshfloor/tasks"
)

// work of a job: its tasks, the records of each part, of each part that is Done what was mapped, of each slice that is Done its text.
type work struct {
	queue  int
	job    api.Job
	tasks  *tasks.Tasks
	parts  [][]string
	mapped [][][]api.Pair
	out    []string
}

// run of a task, over records or over keys.
type run interface {
	Step(many int) bool
	Save() string
	Load(s string) bool
}

// newWork of a job that a queue has: nothing of it is done.
func newWork(q int, program, input string, size int) (*work, error) {
	j, err := job.Parse(program)
	if err != nil {
		return nil, err
	}
	records, err := mapper.Records(input)
	if err != nil {
		return nil, err
	}
	if size < 1 || size > api.MaxRecords {
		return nil, api.ErrBound
	}
	x := &work{queue: q, job: j, out: make([]string, j.Slices)}
	for part := range cut(records, size) {
		x.parts = append(x.parts, part)
	}
	x.mapped = make([][][]api.Pair, len(x.parts))
	x.tasks, err = tasks.New(len(x.parts), j.Slices)
	if err != nil {
		return nil, err
	}
	return x, nil
}

// cut records into parts of so many each; the last one may have fewer.
func cut(records []string, size int) iter.Seq[[]string] {
	return func(yield func([]string) bool) {
		for begin := 0; begin < len(records); begin += size {
			if !yield(records[begin:min(begin+size, len(records))]) {
				return
			}
		}
	}
}

// start a run of a task that there is, at its beginning; of a slice, when all parts are mapped.
func (x *work) start(t api.Task) (run, error) {
	if t.Fold {
		return folder.New(x.job.Fold, x.ofSlice(t.Index))
	}
	return mapper.New(x.job, x.parts[t.Index])
}

// ofSlice: what was mapped of each part, in order, of that slice.
func (x *work) ofSlice(slice int) [][]api.Pair {
	var lists [][]api.Pair
	for _, m := range x.mapped {
		lists = append(lists, m[slice])
	}
	return lists
}
