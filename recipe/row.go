package recipe

import (
	"strings"

	"cooper/api"
	"cooper/spans"
	"cooper/variant"
)

// fault is what is thrown where a line is wrong: at which byte of it.
type fault struct{ col int }

// caught does something, and catches what it throws.
func caught(do func()) (col int, wrong bool) {
	defer func() {
		thrown := recover()
		if thrown == nil {
			return
		}
		f, ok := thrown.(fault)
		if !ok {
			panic(thrown)
		}
		col, wrong = f.col, true
	}()
	do()
	return 0, false
}

// row is words that are not taken yet, and where one that is missing would be.
type row struct {
	words []api.Word
	end   int
}

// endOf is one byte behind the last one of words.
func endOf(words []api.Word) int {
	last := words[len(words)-1]
	return last.Col + len(last.Text)
}

// first is the text of the next word.
func (w *row) first() string {
	if len(w.words) == 0 {
		panic(fault{w.end})
	}
	return w.words[0].Text
}

// word takes a word that may be.
func (w *row) word(may func(string) bool) string {
	text := w.first()
	w.need(may(text))
	w.words = w.words[1:]
	return text
}

// need throws the next word, unless something is so.
func (w *row) need(so bool) {
	if !so {
		panic(fault{w.words[0].Col})
	}
}

// done throws what is left.
func (w *row) done() { w.need(len(w.words) == 0) }

func (w *row) name() string { return w.word(variant.Name) }

func (w *row) value() string { return w.word(variant.Value) }

func (w *row) wish() api.Spec {
	name, set, at := strings.Cut(w.first(), "@")
	w.need(variant.Name(name))
	s := always()
	s.Name = name
	if at {
		s.Spans = w.set(set)
	}
	w.words = w.words[1:]
	s.Settings = w.settings()
	return s
}

func (w *row) condition() api.Spec {
	s := always()
	text := w.first()
	switch {
	case text == "*":
		w.words = w.words[1:]
		return s
	case strings.HasPrefix(text, "@"):
		s.Spans = w.set(text[1:])
		w.words = w.words[1:]
	default:
		w.need(isSetting(text))
	}
	s.Settings = w.settings()
	return s
}

// set is the set behind an at sign of the next word: neither all versions nor none.
func (w *row) set(text string) []api.Span {
	l, ok := spans.Read(text)
	w.need(ok && len(l) > 0 && !spans.Same(l, always().Spans))
	return l
}

func (w *row) settings() []api.Setting {
	var out []api.Setting
	for len(w.words) > 0 && isSetting(w.words[0].Text) {
		name, value, _ := strings.Cut(w.words[0].Text, "=")
		w.need(variant.Name(name) && variant.Value(value))
		w.need(len(out) == 0 || out[len(out)-1].Name < name)
		out = append(out, api.Setting{Name: name, Value: value})
		w.words = w.words[1:]
	}
	return out
}

// isSetting tells whether a word is meant as a setting, right or wrong.
func isSetting(text string) bool { return strings.Contains(text, "=") }

// always is the condition that always holds.
func always() api.Spec { return api.Spec{Spans: []api.Span{{}}} }
