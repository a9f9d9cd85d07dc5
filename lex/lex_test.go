package lex_test

import (
	"reflect"
	"strings"
	"testing"

	"cooper/api"
	"cooper/lex"
)

func w(col int, text string) api.Word { return api.Word{Col: col, Text: text} }

func line(at int, words ...api.Word) api.Line { return api.Line{At: at, Words: words} }

func same(a, b []api.Line) bool { return len(a)+len(b) == 0 || reflect.DeepEqual(a, b) }

func TestLines(t *testing.T) {
	tests := []struct {
		text string
		want []api.Line
	}{
		{"", nil},
		{"\n", nil},
		{"  \n\n # all of it\n", nil},
		{"a  bc # d", []api.Line{line(1, w(1, "a"), w(4, "bc"))}},
		{"a\n", []api.Line{line(1, w(1, "a"))}},
		{"\n\n a\nb", []api.Line{line(3, w(2, "a")), line(4, w(1, "b"))}},
		{"a#b c\nd", []api.Line{line(1, w(1, "a")), line(2, w(1, "d"))}},
		{"#a\n##\n b#", []api.Line{line(3, w(2, "b"))}},
		{"! ~ @1:2,3 x=on", []api.Line{line(1, w(1, "!"), w(3, "~"), w(5, "@1:2,3"), w(12, "x=on"))}},
		{"a b \n", []api.Line{line(1, w(1, "a"), w(3, "b"))}},
		{"$%\"", []api.Line{line(1, w(1, "$%\""))}},
	}
	for _, x := range tests {
		l, where, err := lex.Lines(x.text)
		if err != api.OK || where != (api.Where{}) || !same(l, x.want) {
			t.Errorf("Lines(%q) = %v, %v, %v", x.text, l, where, err)
		}
	}
}

func words(n int) string { return strings.Repeat("w ", n) }

func TestWrong(t *testing.T) {
	long := strings.Repeat("a\n", api.MaxLines)
	tests := []struct {
		text string
		at   api.Where
		err  api.Errno
	}{
		{"a\tb", api.Where{Line: 1, Col: 2}, api.ErrForm},
		{"\x00", api.Where{Line: 1, Col: 1}, api.ErrForm},
		{"a\r\n", api.Where{Line: 1, Col: 2}, api.ErrForm},
		{"a\n# é", api.Where{Line: 2, Col: 3}, api.ErrForm},
		{"a\nb \x7f", api.Where{Line: 2, Col: 3}, api.ErrForm},
		{"a\n\xff", api.Where{Line: 2, Col: 1}, api.ErrForm},
		{"\x1f", api.Where{Line: 1, Col: 1}, api.ErrForm},
		{words(40) + "x", api.Where{Line: 1, Col: 81}, api.ErrLong},
		{"\n" + words(41) + "\t", api.Where{Line: 2, Col: 81}, api.ErrLong},
		{words(40) + "\tx", api.Where{Line: 1, Col: 81}, api.ErrForm},
		{words(39) + "abc\t d", api.Where{Line: 1, Col: 82}, api.ErrForm},
		{words(40) + "xyz\t", api.Where{Line: 1, Col: 81}, api.ErrLong},
		{"\t" + words(41), api.Where{Line: 1, Col: 1}, api.ErrForm},
		{long + "a", api.Where{Line: 2001, Col: 1}, api.ErrLong},
		{long + "\n # b\n  a b", api.Where{Line: 2003, Col: 3}, api.ErrLong},
		{long + "\t", api.Where{Line: 2001, Col: 1}, api.ErrForm},
		{long + "a\t", api.Where{Line: 2001, Col: 1}, api.ErrLong},
		{long + " \ta", api.Where{Line: 2001, Col: 2}, api.ErrForm},
		{strings.Repeat(" ", api.MaxText+1), api.Where{}, api.ErrLong},
		{"\t" + strings.Repeat(" ", api.MaxText), api.Where{}, api.ErrLong},
		{strings.Repeat(" ", api.MaxText-1) + "\t", api.Where{Line: 1, Col: api.MaxText}, api.ErrForm},
	}
	for _, x := range tests {
		l, where, err := lex.Lines(x.text)
		if err != x.err || where != x.at || len(l) != 0 {
			t.Errorf("Lines(%.60q) = %d lines, %v, %v, not %v, %v", x.text, len(l), where, err, x.at, x.err)
		}
	}
}

func TestJustSoMany(t *testing.T) {
	if l, _, err := lex.Lines(words(40) + "# and more of it"); err != api.OK || len(l) != 1 || len(l[0].Words) != 40 {
		t.Error("forty words are not too many", err)
	}
	text := strings.Repeat("a\n\n", api.MaxLines) + " # none\n\n"
	if l, _, err := lex.Lines(text); err != api.OK || len(l) != api.MaxLines || l[1999].At != 3999 {
		t.Error("two thousand lines with words are not too many", err)
	}
	if l, _, err := lex.Lines(strings.Repeat(" ", api.MaxText-1) + "a"); err != api.OK || len(l) != 1 || l[0].Words[0] != w(api.MaxText, "a") {
		t.Error("a text may have MaxText bytes", err)
	}
	if l, _, err := lex.Lines(strings.Repeat("\n", api.MaxText)); err != api.OK || len(l) != 0 {
		t.Error("lines without words are not counted", err)
	}
}

func TestText(t *testing.T) {
	tests := []struct {
		l    []api.Line
		want string
	}{
		{nil, ""},
		{[]api.Line{line(7, w(9, "a"), w(3, "b"))}, "a b\n"},
		{[]api.Line{line(1, w(1, "a")), line(1), line(0, w(0, "b c"), w(0, ""), w(0, "d"))}, "a\n\nb c  d\n"},
	}
	for _, x := range tests {
		if text := lex.Text(x.l); text != x.want {
			t.Errorf("Text(%v) = %q", x.l, text)
		}
	}
}

// thereAndBack is P5.2 of one text.
func thereAndBack(t *testing.T, text string) {
	t.Helper()
	l, _, err := lex.Lines(text)
	again := lex.Text(l)
	if err != api.OK || len(again) > api.MaxText {
		return
	}
	back, where, err := lex.Lines(again)
	if err != api.OK || len(back) != len(l) {
		t.Fatalf("%q: %v, %v", again, where, err)
	}
	for i := range l {
		if back[i].At != i+1 || len(back[i].Words) != len(l[i].Words) {
			t.Fatalf("%q and %q", text, again)
		}
		for k := range l[i].Words {
			if back[i].Words[k].Text != l[i].Words[k].Text {
				t.Fatalf("%q and %q", text, again)
			}
		}
	}
}

func TestThereAndBack(t *testing.T) {
	for _, text := range []string{"", "a", " a b#c\n\n d", strings.Repeat("a\n", 2000), words(40), "x\n y  z # q"} {
		thereAndBack(t, text)
	}
}

func FuzzThereAndBack(f *testing.F) {
	f.Add("a  bc # d\n\n e")
	f.Add("\t")
	f.Fuzz(thereAndBack)
}

func TestLinesAreNew(t *testing.T) {
	l, _, _ := lex.Lines("a b\nc")
	l[0].Words = append(l[0].Words, w(5, "x"))
	l[0].Words[0] = w(9, "z")
	if again, _, _ := lex.Lines("a b\nc"); !same(again, []api.Line{line(1, w(1, "a"), w(3, "b")), line(2, w(1, "c"))}) {
		t.Error(again)
	}
}
