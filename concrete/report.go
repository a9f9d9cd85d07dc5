package concrete

import (
	"strconv"
	"strings"

	"cooper/api"
)

// report is lines of words.
type report struct{ strings.Builder }

func (r *report) line(words ...string) {
	r.WriteString(strings.Join(words, " "))
	r.WriteByte('\n')
}

// numbers writes a line of a word and numbers.
func (r *report) numbers(word string, l ...int) {
	words := []string{word}
	for _, n := range l {
		words = append(words, strconv.Itoa(n))
	}
	r.line(words...)
}

// Report is the report of an outcome.
func Report(o api.Outcome) string {
	var r report
	switch o.Kind {
	case api.ParseError:
		r.numbers("parse", int(o.In), int(o.Err), o.At.Line, o.At.Col)
	case api.IllFormed:
		r.numbers("form", int(o.In), int(o.Problem.Code), o.Problem.Line)
	case api.TooLarge:
		r.line("large")
	case api.OutOfBudget:
		r.line("budget")
	case api.NoGraph:
		r.none(o.Rules)
	case api.StaleLock:
		r.line("stale", strconv.Itoa(int(o.Breach.Code)), o.Breach.Name)
	case api.IsGraph:
		r.graph(o)
	}
	return r.String()
}

func (r *report) none(rules []api.Rule) {
	var lines []int
	for _, rule := range rules {
		lines = append(lines, rule.Line)
	}
	r.numbers("none", lines...)
}

func (r *report) graph(o api.Outcome) {
	r.numbers("graph", o.Cost[:]...)
	for _, d := range o.Derivations {
		r.line("+", d.Path)
	}
	for _, l := range o.Links {
		r.line("#", l.File, l.Path)
	}
	if o.Clash != "" {
		r.line("!", o.Clash)
	}
}
