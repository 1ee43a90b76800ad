// Package found numbers things in the order in which they are found: states of machines, pairs and sets of them, situations of plays.
package found

// nowhere is the number of no thing.
const nowhere = -1

// found numbers what is found.
type found[T comparable] struct {
	number map[T]int
	things []T
}

// numberOf returns the number of a thing, which is found now if it was not before.
func (f *found[T]) numberOf(thing T) int {
	number, known := f.number[thing]
	if !known {
		number = len(f.things)
		f.number[thing] = number
		f.things = append(f.things, thing)
	}
	return number
}

// Search finds all to which letters lead from the first thing, thing by thing, letter by letter: in this order next is asked. It returns what is found and, for each thing and letter, the number of the next thing; none is no thing, and has the number -1. It gives up, and reports false, when more than most things are found.
func Search[T comparable](first, none T, letters, most int, next func(T, int) T) ([]T, [][]int, bool) {
	f := &found[T]{number: map[T]int{none: nowhere}}
	f.numberOf(first)
	var rows [][]int
finding:
	for at := 0; at < len(f.things); at++ {
		row := make([]int, letters)
		for letter := range letters {
			row[letter] = f.numberOf(next(f.things[at], letter))
			if len(f.things) > most {
				break finding
			}
		}
		rows = append(rows, row)
	}
	return f.things, rows, len(rows) == len(f.things)
}
