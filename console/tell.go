package console

import (
	"strconv"
	"strings"

	"threshfloor/api"
	"threshfloor/folder"
	"threshfloor/job"
	"threshfloor/mapper"
)

// alone: what one alone makes of an input, as one part: the slices of the job.
func alone(program, input string) ([]string, error) {
	j, err := job.Parse(program)
	if err != nil {
		return nil, err
	}
	records, err := mapper.Records(input)
	if err != nil {
		return nil, err
	}
	m, err := mapper.New(j, records)
	if err != nil {
		return nil, err
	}
	m.Step(len(records))
	var out []string
	for _, l := range m.Slices() {
		text, err := folded(j.Fold, l)
		if err != nil {
			return nil, err
		}
		out = append(out, text)
	}
	return out, nil
}

// folded pairs that rise, as the text of a slice. There are no more keys than pairs.
func folded(kind int, l []api.Pair) (string, error) {
	f, err := folder.New(kind, [][]api.Pair{l})
	if err != nil {
		return "", err
	}
	f.Step(len(l))
	return f.Out(), nil
}

// slicesText: slices as one line.
func slicesText(l []string, err error) (string, error) {
	if err != nil {
		return "", err
	}
	var told []string
	for _, s := range l {
		told = append(told, sliceText(s))
	}
	return strings.Join(told, "|"), nil
}

// sliceText of one slice.
func sliceText(s string) string {
	if s == "" {
		return "-"
	}
	return strings.ReplaceAll(s, "\n", "/")
}

// taskText of a task.
func taskText(t api.Task, err error) (string, error) {
	if err != nil {
		return "", err
	}
	kind := " map "
	if t.Fold {
		kind = " fold "
	}
	return strconv.Itoa(t.Job) + kind + strconv.Itoa(t.Index), nil
}

// statusText of a job.
func statusText(s api.Status, err error) (string, error) {
	if err != nil {
		return "", err
	}
	told := strconv.Itoa(s.Queue) + " " + ofAll(s.Mapped, s.Parts) + " " + ofAll(s.Out, s.Slices)
	if s.Done {
		told += " done"
	}
	return told, nil
}

// ofAll: so many, of how many there are.
func ofAll(some, all int) string { return strconv.Itoa(some) + "/" + strconv.Itoa(all) }

// numberText of a number.
func numberText(n int, err error) (string, error) {
	if err != nil {
		return "", err
	}
	return strconv.Itoa(n), nil
}

// numbersText of some, with blanks between.
func numbersText(l []int) string {
	var told []string
	for _, n := range l {
		told = append(told, strconv.Itoa(n))
	}
	return strings.Join(told, " ")
}
