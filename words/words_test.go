package words

import (
	"slices"
	"strings"
	"testing"
)

// partsOf returns the parts of a text as long as there are any.
func partsOf(text string) (list []string, ok bool) {
	for {
		part, rest, ok := First(text)
		if !ok || part == "" {
			return list, ok
		}
		list = append(list, part)
		text = rest
	}
}

// The longest part that fits is read; blanks stand between parts, and around all of them.
func TestFirst(t *testing.T) {
	for _, c := range []struct {
		text string
		want string // the parts, with spaces between
		ok   bool
	}{
		{"", "", true},
		{" \t\n", "", true},
		{"a", "a", true},
		{" ab\tcd\n", "ab cd", true},
		{"newx=1;", "newx = 1 ;", true},
		{"x:=y==z:com|-com", "x := y == z : com |- com", true},
		{"=== : = :==", "== = : = := =", true},
		{"a12{}[]()<+-*,;", "a 1 2 { } [ ] ( ) < + - * , ;", true},
		{"0 1 2 3", "0 1 2 3", true},
		{"a 4", "a", false},
		{"a | - b", "a", false},
		{"aB", "a", false},
		{"a\rb", "a", false},
		{"a\x00", "a", false},
		{"ä", "", false},
		{"\xff", "", false},
		{"a|", "a", false},
	} {
		got, ok := partsOf(c.text)
		if ok != c.ok || !slices.Equal(got, strings.Fields(c.want)) {
			t.Errorf("parts of %q: %q, %v; want %q, %v", c.text, got, ok, c.want, c.ok)
		}
	}
	for _, text := range []string{" ä", "4", "|"} {
		if part, _, ok := First(text); part != "" || ok {
			t.Errorf("First of %q: %q, %v", text, part, ok)
		}
	}
	if part, rest, ok := First("  ab c "); part != "ab" || rest != " c " || !ok {
		t.Errorf("First: %q, %q, %v", part, rest, ok)
	}
}

func TestNamesAndDigits(t *testing.T) {
	for _, name := range []string{"a", "z", "abcdefgh", "hole", "client", "skips", "news"} {
		if !IsName(name) {
			t.Errorf("%q is no name", name)
		}
	}
	for _, other := range []string{"", "abcdefghi", "a1", "A", "a b", " a", "ä", "1", "skip", "stop", "fault", "if", "while", "new", "proc", "block", "exit", "do", "com", "exp", "val"} {
		if IsName(other) {
			t.Errorf("%q is a name", other)
		}
	}
	for value, digit := range []string{"0", "1", "2", "3"} {
		if got, ok := Digit(digit); got != value || !ok {
			t.Errorf("Digit of %q: %d, %v", digit, got, ok)
		}
	}
	for _, other := range []string{"", "4", "9", "00", "-1", "a", "/", ":"} {
		if got, ok := Digit(other); got != 0 || ok {
			t.Errorf("Digit of %q: %d, %v", other, got, ok)
		}
	}
}
