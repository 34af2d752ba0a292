package floor

import (
	"threshfloor/api"
	"threshfloor/journal"
)

// Recover a floor from a journal: its entries, up to the first one that isn't whole, or is none of a floor's.
func Recover(log string, queues []api.Queue, workers, slots int) (*Floor, error) {
	f, err := New(queues, workers, slots)
	if err != nil {
		return nil, err
	}
	e, rest, ok := journal.One(log)
	for ok && f.take(e) {
		e, rest, ok = journal.One(rest)
	}
	return f, nil
}

// take what an entry says, and note it: false: it is none of a floor's, and nothing changes.
func (f *Floor) take(e journal.Entry) bool {
	if len(e.N) != 2 {
		return false
	}
	switch {
	case e.Kind == jobEntry && len(e.Texts) == 2:
		_, err := f.Submit(e.N[0], e.Texts[0], e.Texts[1], e.N[1])
		return err == nil
	case e.Kind == outEntry && len(e.Texts) == 1:
		return f.takeOut(e.N[0], e.N[1], e.Texts[0])
	}
	return false
}

// takeOut a slice that there is, and that isn't Done. By whom it was done is not told, and isn't asked of slices: only parts are lost.
func (f *Floor) takeOut(job, slice int, text string) bool {
	x, err := f.workOf(job)
	if err != nil {
		return false
	}
	if first, err := x.tasks.Finish(true, slice, 0); !first || err != nil {
		return false
	}
	f.putOut(job, slice, text)
	return true
}
