package impl

import "iter"

// MaxRow is the largest number of numbers of a row.
const MaxRow = 16

// MaxValue is the greatest number of a row.
const MaxValue = 1000

// MaxBits is the largest number of binary digits of an index.
const MaxBits = 4

// ValidRow reports whether numbers are a row.
func ValidRow(row []int) bool {
	if len(row) > MaxRow {
		return false
	}
	for _, number := range row {
		if number < -MaxValue || number > MaxValue {
			return false
		}
	}
	return true
}

// SumsOf returns the sums of the first numbers.
func SumsOf(row []int) []int {
	if !ValidRow(row) {
		return nil
	}
	sums := copyOf(row)
	sumUp(sums)
	return sums
}

// StepsOf returns each number less the one ahead.
func StepsOf(row []int) []int {
	if !ValidRow(row) {
		return nil
	}
	return steps(row)
}

// EdgeOf returns the first numbers of all rows of differences.
func EdgeOf(row []int) []int {
	if !ValidRow(row) {
		return nil
	}
	edge := make([]int, 0, len(row))
	for differences := range differenceRows(row) {
		edge = append(edge, differences[0])
	}
	return edge
}

// FromEdge returns the numbers of the first numbers of differences.
func FromEdge(row []int) []int {
	if !ValidRow(row) {
		return nil
	}
	numbers := copyOf(row)
	// A row is the sums of its first number and its differences, so the
	// rows are built from the last one, of a single number, back to the first.
	for first := len(numbers) - 1; first >= 0; first-- {
		sumUp(numbers[first:])
	}
	return numbers
}

// DegreeOf returns the degree of the polynomial of a row.
func DegreeOf(row []int) int {
	if !ValidRow(row) {
		return -2
	}
	degree := -1
	// Behind a row of noughts all differences are 0, and the row ahead of it
	// has the same number throughout, which is the last one of the edge.
rows:
	for differences := range differenceRows(row) {
		for _, number := range differences {
			if number != 0 {
				degree++
				continue rows
			}
		}
		break rows
	}
	return degree
}

// BelowOf returns the sums over all parts of sets.
func BelowOf(row []int) []int {
	return addBelow(row, 1)
}

// UnbelowOf returns the numbers of sums over parts.
func UnbelowOf(row []int) []int {
	return addBelow(row, -1)
}

// DivisorSums returns the sums over all divisors.
func DivisorSums(row []int) []int {
	if !ValidRow(row) {
		return nil
	}
	sums := copyOf(row)
	// From the greatest divisor down, each number is still that of the row
	// when it is added to those at its multiples.
	for divisor := len(sums); divisor >= 1; divisor-- {
		addToMultiples(sums, divisor, sums[divisor-1])
	}
	return sums
}

// UndivisorSums returns the numbers of sums over divisors.
func UndivisorSums(row []int) []int {
	if !ValidRow(row) {
		return nil
	}
	numbers := copyOf(row)
	// From the least divisor up, each number is already free of those at its
	// own divisors when it is taken off those at its multiples.
	for divisor := 1; divisor <= len(numbers); divisor++ {
		addToMultiples(numbers, divisor, -numbers[divisor-1])
	}
	return numbers
}

func copyOf(numbers []int) []int {
	result := make([]int, len(numbers))
	copy(result, numbers)
	return result
}

// sumUp replaces each number by the sum of it and all ahead of it.
func sumUp(numbers []int) {
	for i := 1; i < len(numbers); i++ {
		numbers[i] += numbers[i-1]
	}
}

// steps is StepsOf for numbers of any size: differences of differences leave
// the limits of a row.
func steps(numbers []int) []int {
	result := copyOf(numbers)
	for i := 1; i < len(numbers); i++ {
		result[i] -= numbers[i-1]
	}
	return result
}

// differenceRows ranges over the row, its differences, the differences of
// these, and so on, as long as there are numbers.
func differenceRows(row []int) iter.Seq[[]int] {
	return func(yield func([]int) bool) {
		current := copyOf(row)
		for len(current) > 0 && yield(current) {
			current = steps(current)[1:]
		}
	}
}

// isBinaryRow reports whether numbers are a row of as many as there are
// indices of some binary digits.
func isBinaryRow(row []int) bool {
	if !ValidRow(row) {
		return false
	}
	for digits := 0; digits <= MaxBits; digits++ {
		if len(row) == 1<<digits {
			return true
		}
	}
	return false
}

// addBelow adds, sign times, one binary digit after the other, the number at
// the index without the digit to that at the index with it. Digits do not
// depend on each other, so the sign -1 takes back what the sign 1 does.
func addBelow(row []int, sign int) []int {
	if !isBinaryRow(row) {
		return nil
	}
	numbers := copyOf(row)
	for digit := 1; digit < len(numbers); digit *= 2 {
		for i := range numbers {
			if i&digit != 0 {
				numbers[i] += sign * numbers[i-digit]
			}
		}
	}
	return numbers
}

// addToMultiples adds an amount to the numbers at all greater multiples of a
// divisor, counted from 1.
func addToMultiples(numbers []int, divisor int, amount int) {
	for n := 2 * divisor; n <= len(numbers); n += divisor {
		numbers[n-1] += amount
	}
}
