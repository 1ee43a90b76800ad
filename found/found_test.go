package found

import (
	"reflect"
	"testing"
)

// search searches numbers from 1 on, where the letter 0 doubles and the letter 1 adds 3, and what is above 12 is none. It notes what is asked.
func search(most int) (things []int, rows [][]int, all bool, asked [][2]int) {
	things, rows, all = Search(1, 0, 2, most, func(number, letter int) int {
		asked = append(asked, [2]int{number, letter})
		next := 2 * number
		if letter == 1 {
			next = number + 3
		}
		if next > 12 {
			return 0
		}
		return next
	})
	return things, rows, all, asked
}

func TestSearch(t *testing.T) {
	things, rows, all, asked := search(8)
	if want := []int{1, 2, 4, 5, 8, 7, 10, 11}; !all || !reflect.DeepEqual(things, want) {
		t.Errorf("%v, %v; want %v", things, all, want)
	}
	if want := [][]int{{1, 2}, {2, 3}, {4, 5}, {6, 4}, {-1, 7}, {-1, 6}, {-1, -1}, {-1, -1}}; !reflect.DeepEqual(rows, want) {
		t.Errorf("%v; want %v", rows, want)
	}
	for i, one := range asked {
		if one != [2]int{things[i/2], i % 2} {
			t.Errorf("question %d is %v", i, one)
		}
	}
	if len(asked) != 16 {
		t.Errorf("%d questions", len(asked))
	}
}

func TestSearchGivesUp(t *testing.T) {
	for most := range 8 {
		if things, _, all, _ := search(most); all || most > 0 && len(things) != most+1 {
			t.Errorf("at most %d: %v, %v", most, things, all)
		}
	}
	if things, rows, all := Search("none", "none", 1, 0, func(string, int) string { return "other" }); !all || len(things) != 0 || len(rows) != 0 {
		t.Errorf("%v, %v, %v", things, rows, all)
	}
}
