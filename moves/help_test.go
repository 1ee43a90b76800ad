package moves

import (
	"reflect"
	"strconv"
	"strings"
	"testing"

	"doppelganger/api"
	"doppelganger/auto"
	"doppelganger/lang"
)

func mustRead(t *testing.T, text string) *lang.Piece {
	t.Helper()
	p, err := lang.Read(text)
	if err != api.OK {
		t.Fatalf("Read(%q): %d", text, err)
	}
	return p
}

// mustPlays returns the machine of a piece, and checks that it is the least one.
func mustPlays(t *testing.T, p *lang.Piece) api.Machine {
	t.Helper()
	m, err := Plays(p)
	if err != api.OK {
		t.Fatalf("Plays of %.200q: %d", p.Text(), err)
	}
	least, err := auto.Least(m)
	if err != api.OK || m.Letters != len(lettersOf(p)) || m.Start != least.Start || len(m.Next) != len(least.Next) || len(m.Next) > 0 && !reflect.DeepEqual(m, least) {
		t.Fatalf("Plays of %.200q: %v is not the least machine with its letters", p.Text(), m)
	}
	return m
}

func lettersOf(p *lang.Piece) []api.Move {
	return Letters(p.Decls(), p.Type())
}

// word reads a word as the document writes it: letters as numbers, with spaces between.
func word(text string) []int {
	letters := []int{}
	for _, field := range strings.Fields(text) {
		letter, err := strconv.Atoi(field)
		if err != nil {
			panic(err)
		}
		letters = append(letters, letter)
	}
	return letters
}

// movesOf returns the moves of a word.
func movesOf(p *lang.Piece, word []int) []api.Move {
	letters := lettersOf(p)
	var list []api.Move
	for _, letter := range word {
		list = append(list, letters[letter])
	}
	return list
}

// wordOf returns the word of moves, all of which have to be letters.
func wordOf(t *testing.T, p *lang.Piece, play []api.Move) []int {
	t.Helper()
	number := map[api.Move]int{}
	for letter, move := range lettersOf(p) {
		number[move] = letter
	}
	var list []int
	for _, move := range play {
		letter, known := number[move]
		if !known {
			t.Fatalf("%q: %v is no letter", p.Text(), move)
		}
		list = append(list, letter)
	}
	return list
}

// wantPlay checks what Play says of moves.
func wantPlay(t *testing.T, p *lang.Piece, play []api.Move, want bool, wantErr api.Errno) {
	t.Helper()
	if is, err := Play(p, play); is != want || err != wantErr {
		t.Errorf("Play of %.200q and %d moves, %v: %v, %d; want %v, %d", p.Text(), len(play), play[:min(len(play), 20)], is, err, want, wantErr)
	}
}

// plays checks that words, with commas between, are plays of a piece, and others are none.
func plays(t *testing.T, text, are, areNot string) {
	t.Helper()
	p := mustRead(t, text)
	m := mustPlays(t, p)
	for want, words := range map[bool]string{true: are, false: areNot} {
		if words == "" {
			continue
		}
		for _, one := range strings.Split(words, ",") {
			letters := word(one)
			if auto.Accepts(m, letters) != want {
				t.Errorf("the machine of %q: %s should be %v", text, one, want)
			}
			wantPlay(t, p, movesOf(p, letters), want, api.OK)
		}
	}
}

// wantStates checks how many states the machine of a piece has.
func wantStates(t *testing.T, text string, want int) {
	t.Helper()
	if m := mustPlays(t, mustRead(t, text)); len(m.Next) != want {
		t.Errorf("the machine of %.200q has %d states; want %d", text, len(m.Next), want)
	}
}

// wantFull checks that Plays exceeds a limit.
func wantFull(t *testing.T, text string) {
	t.Helper()
	if m, err := Plays(mustRead(t, text)); err != api.ErrFull || !reflect.DeepEqual(m, api.Machine{}) {
		t.Errorf("Plays of %.200q: %d states, %d; want ErrFull", text, len(m.Next), err)
	}
}
