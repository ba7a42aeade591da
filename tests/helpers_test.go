package tests

import (
	"slices"
	"testing"
)

// transform is a function that makes a row, or nothing, of numbers.
type transform func(row []int) []int

// sameNumbers fails unless got has just the numbers of want. A nil slice and
// an empty one are the same.
func sameNumbers(t *testing.T, name string, input []int, got []int, want []int) {
	t.Helper()
	if !slices.Equal(got, want) {
		t.Errorf("%s(%v) = %v, want %v", name, input, got, want)
	}
}

// sameNumber fails unless got is want.
func sameNumber(t *testing.T, name string, input []int, got int, want int) {
	t.Helper()
	if got != want {
		t.Errorf("%s(%v) = %d, want %d", name, input, got, want)
	}
}

func totalOf(numbers []int) int {
	total := 0
	for _, number := range numbers {
		total += number
	}
	return total
}

func repeated(number int, count int) []int {
	return slices.Repeat([]int{number}, count)
}

// valuesOf returns the values of a polynomial at 0, 1, 2, and so on, less the
// start, so that those of higher degrees stay small at both ends.
func valuesOf(polynomial func(x int) int, start int, count int) []int {
	values := make([]int, count)
	for i := range values {
		values[i] = polynomial(i - start)
	}
	return values
}

// mixedRows returns count rows of a length with numbers in -limit..limit, the
// same ones at each call.
func mixedRows(length int, limit int, count int) [][]int {
	state := uint64(length*100003 + limit)
	rows := make([][]int, count)
	for r := range rows {
		rows[r] = make([]int, length)
		for i := range rows[r] {
			state = state*6364136223846793005 + 1442695040888963407
			rows[r][i] = int(state>>33)%(2*limit+1) - limit
		}
	}
	return rows
}

// smallRows returns all rows of 0 to 4 numbers out of a few.
func smallRows() [][]int {
	numbers := []int{-1000, -2, -1, 0, 1, 3, 1000}
	rows := [][]int{{}}
	for from, length := 0, 1; length <= 4; length++ {
		to := len(rows)
		for _, row := range rows[from:to] {
			for _, number := range numbers {
				rows = append(rows, append(slices.Clone(row), number))
			}
		}
		from = to
	}
	return rows
}

// sampleRows returns rows of every length: no numbers, one number, all the
// same, single numbers among noughts, polynomials, and mixed ones of sizes
// from those whose sums are rows up to the limits.
func sampleRows() [][]int {
	rows := smallRows()
	for length := 0; length <= 16; length++ {
		for _, number := range []int{-1000, -1, 0, 1, 62, 1000} {
			rows = append(rows, repeated(number, length))
		}
		for i := range length {
			row := repeated(0, length)
			row[i] = 1 - 2*(i%2)
			rows = append(rows, row)
		}
		rows = append(rows, polynomialRows(length)...)
		for _, limit := range []int{1, 3, 62, 1000} {
			rows = append(rows, mixedRows(length, limit, 20)...)
		}
	}
	return rows
}

func polynomialRows(length int) [][]int {
	return [][]int{
		valuesOf(func(x int) int { return 7 - 3*x }, 0, length),
		valuesOf(func(x int) int { return x*x - x + 1 }, 3, length),
		valuesOf(func(x int) int { return x * x * x }, 7, length),
		valuesOf(func(x int) int { return x * (x - 1) * (x - 2) * (x - 3) / 24 }, 5, length),
	}
}

// wrongRows returns numbers that are no row.
func wrongRows() [][]int {
	const greatest = int(^uint(0) >> 1)
	return [][]int{
		{1001}, {-1001}, {greatest}, {-greatest - 1},
		{1, 2, 3, 1001}, {-1001, 0}, {0, 1001},
		repeated(0, 17), repeated(1, 17), repeated(1, 32),
		append(repeated(0, 15), -1001),
	}
}

// binaryLength reports whether there are indices of 0 to 4 binary digits.
func binaryLength(count int) bool {
	return slices.Contains([]int{1, 2, 4, 8, 16}, count)
}
