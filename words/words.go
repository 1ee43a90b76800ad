// Package words parts texts into words, digits and marks, and knows names.
package words

import (
	"strings"

	"doppelganger/api"
)

const (
	blanks = " \t\n"
	marks  = ":=,;<+-*(){}[]" // those of one byte
)

// First returns the part that a text begins with, behind blanks, and what stands behind it; at the end of the text the part is "". It reports false if something stands there that is no part.
func First(text string) (part, rest string, ok bool) {
	text = strings.TrimLeft(text, blanks)
	length := partLength(text)
	return text[:length], text[length:], length > 0 || text == ""
}

// partLength returns how many bytes the part has that a text begins with, 0 if it begins with none.
func partLength(text string) int {
	if letters := countLetters(text); letters > 0 || text == "" {
		return letters
	}
	switch text[:min(2, len(text))] {
	case ":=", "==", "|-":
		return 2
	}
	if _, ok := Digit(text[:1]); ok || strings.Contains(marks, text[:1]) {
		return 1
	}
	return 0
}

// countLetters returns how many letters a text begins with.
func countLetters(text string) int {
	count := 0
	for count < len(text) && 'a' <= text[count] && text[count] <= 'z' {
		count++
	}
	return count
}

// Digit returns the value of a part that is a digit.
func Digit(part string) (value int, ok bool) {
	if len(part) != 1 || part[0] < '0' || part[0] >= '0'+api.Width {
		return 0, false
	}
	return int(part[0] - '0'), true
}

// IsName reports whether a part is a name.
func IsName(part string) bool {
	if len(part) < 1 || len(part) > api.MaxName || countLetters(part) != len(part) {
		return false
	}
	switch part {
	case "skip", "stop", "fault", "if", "while", "new", "proc", "block", "exit", "do", "com", "exp", "val":
		return false
	}
	return true
}
