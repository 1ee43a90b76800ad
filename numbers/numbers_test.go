package numbers

import (
	"testing"

	"doppelganger/api"
)

// P6 of DOC.md: sums, differences and products are modulo Width, and comparisons are 1 or 0.
func TestCalculate(t *testing.T) {
	tables := map[int][api.Width][api.Width]int{
		api.Add:   {{0, 1, 2, 3}, {1, 2, 3, 0}, {2, 3, 0, 1}, {3, 0, 1, 2}},
		api.Sub:   {{0, 3, 2, 1}, {1, 0, 3, 2}, {2, 1, 0, 3}, {3, 2, 1, 0}},
		api.Mul:   {{0, 0, 0, 0}, {0, 1, 2, 3}, {0, 2, 0, 2}, {0, 3, 2, 1}},
		api.Equal: {{1, 0, 0, 0}, {0, 1, 0, 0}, {0, 0, 1, 0}, {0, 0, 0, 1}},
		api.Less:  {{0, 1, 1, 1}, {0, 0, 1, 1}, {0, 0, 0, 1}, {0, 0, 0, 0}},
	}
	for kind, table := range tables {
		for left, row := range table {
			for right, want := range row {
				if got := Calculate(kind, left, right); got != want {
					t.Errorf("Calculate(%d, %d, %d): %d; want %d", kind, left, right, got, want)
				}
			}
		}
	}
}
