package job

import (
	"strconv"
	"strings"

	"threshfloor/api"
	"threshfloor/expr"
)

// read the job whose text this is. Of what is no job's text it is some job with another one, or one that may not be.
func read(s string) api.Job {
	lines := strings.Split(strings.TrimSuffix(s, "\n"), "\n")
	j := readHead(lines[0])
	for _, l := range lines[1:] {
		j.Rules = append(j.Rules, readRule(l))
	}
	return j
}

// readHead of a job: what holds for all rules.
func readHead(line string) api.Job {
	r := reader{line}
	var j api.Job
	name := r.word()
	for fold, n := range folds {
		if n == name {
			j.Fold = fold
		}
	}
	r.skip(1)
	j.Slices = r.number()
	j.Early = r.take(early)
	return j
}

// readRule of a job.
func readRule(line string) api.Rule {
	r := reader{line}
	x := api.Rule{Each: r.take(each)}
	if r.take(same) {
		x.When = api.Same
	} else if r.take(other) {
		x.When = api.Other
	}
	if x.When != api.Always {
		x.If = r.expr()
		r.skip(1)
		x.S = r.quoted()
		r.skip(1)
	}
	r.skip(len(key))
	x.Key = r.expr()
	r.skip(len(val))
	x.Val = r.expr()
	return x
}

// reader of a line: what is left of it.
type reader struct{ rest string }

// skip so many bytes, or all.
func (r *reader) skip(many int) {
	r.rest = r.rest[min(many, len(r.rest)):]
}

// take a text, if the line goes on with it.
func (r *reader) take(s string) bool {
	rest, ok := strings.CutPrefix(r.rest, s)
	r.rest = rest
	return ok
}

// word up to the next blank, or the end.
func (r *reader) word() string {
	w, _, _ := strings.Cut(r.rest, " ")
	r.skip(len(w))
	return w
}

// number, or any, if it is none.
func (r *reader) number() int {
	n, _ := strconv.Atoi(r.word())
	return n
}

// expr: a name, what its kind has, and the parts of it. What has parts has a name, so each of them leaves less to be read.
func (r *reader) expr() api.Expr {
	e := api.Expr{Kind: names()[r.word()]}
	if hasNumber(e.Kind) {
		r.skip(1)
		e.N = r.number()
	}
	if hasText(e.Kind) {
		r.skip(1)
		e.S = r.quoted()
	}
	for range expr.ShapeOf(e.Kind).Parts {
		r.skip(1)
		e.A = append(e.A, r.expr())
	}
	return e
}

// quoted text: what stands up to the next '"' that has no '\' ahead.
func (r *reader) quoted() string {
	var b strings.Builder
	r.skip(1)
	for r.rest != "" && r.rest[0] != '"' {
		r.take(`\`)
		b.WriteString(r.rest[:min(1, len(r.rest))])
		r.skip(1)
	}
	r.skip(1)
	return b.String()
}
