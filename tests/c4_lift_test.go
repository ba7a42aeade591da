package tests

import (
	"math"
	"slices"
	"testing"

	"loop.example/wholewaves/impl"
)

// evenRows returns the sample rows of an even number of numbers, and all of
// two small ones.
func evenRows() [][]int {
	rows := slices.DeleteFunc(sampleRows(), func(row []int) bool { return len(row)%2 != 0 })
	return append(rows, pairRows()...)
}

// pairRows returns rows of two numbers: all small ones, and the limits.
func pairRows() [][]int {
	numbers := []int{-1000, -999, -501, -500, 499, 500, 999, 1000}
	for number := -9; number <= 9; number++ {
		numbers = append(numbers, number)
	}
	var rows [][]int
	for _, first := range numbers {
		for _, second := range numbers {
			rows = append(rows, []int{first, second})
		}
	}
	return rows
}

// equalSteps returns rows of an even number of numbers in equal steps.
func equalSteps() [][]int {
	var rows [][]int
	for length := 2; length <= 16; length += 2 {
		for _, start := range []int{-100, -7, 0, 1, 100} {
			for _, step := range []int{-60, -4, -3, -2, -1, 0, 1, 2, 3, 4, 60} {
				row := make([]int, length)
				for i := range row {
					row[i] = start + i*step
				}
				rows = append(rows, row)
			}
		}
	}
	return rows
}

// floorOf returns a number divided, rounded down.
func floorOf(number int, divisor int) int {
	return int(math.Floor(float64(number) / float64(divisor)))
}

// halvesOf returns the means and the differences by their definition.
func halvesOf(row []int) []int {
	var means, differences []int
	for i := 0; i < len(row); i += 2 {
		means = append(means, row[i]+floorOf(row[i+1]-row[i], 2))
		differences = append(differences, row[i+1]-row[i])
	}
	return append(means, differences...)
}

// allHalvesOf returns the halves of the row, of its first half, and so on, by
// their definition.
func allHalvesOf(row []int) []int {
	if len(row) < 2 {
		return row
	}
	halves := halvesOf(row)
	return slices.Concat(allHalvesOf(halves[:len(row)/2]), halves[len(row)/2:])
}

// leapsOf returns the smoothed numbers and the details by their definition.
func leapsOf(row []int) []int {
	details := map[int]int{}
	for i := 1; i < len(row); i += 2 {
		ahead, behind := row[i-1], row[i-1]
		if i+1 < len(row) {
			behind = row[i+1]
		}
		details[i] = row[i] - floorOf(ahead+behind, 2)
	}
	leaps := make([]int, len(row))
	for i := 0; i < len(row); i += 2 {
		ahead, ok := details[i-1]
		behind := details[i+1]
		if !ok {
			ahead = behind
		}
		leaps[i/2] = row[i] + floorOf(ahead+behind+2, 4)
		leaps[len(row)/2+i/2] = behind
	}
	return leaps
}

func TestHalveOf(t *testing.T) {
	checkExamples(t, "HalveOf", impl.HalveOf, []example{
		{nil, nil},
		{[]int{}, nil},
		{[]int{1}, nil},
		{[]int{1, 2, 3}, nil},
		{[]int{4, 4}, []int{4, 0}},
		{[]int{4, 7}, []int{5, 3}},
		{[]int{7, 4}, []int{5, -3}},
		{[]int{-4, -7}, []int{-6, -3}},
		{[]int{-7, -4}, []int{-6, 3}},
		{[]int{0, -1}, []int{-1, -1}},
		{[]int{-1, 0}, []int{-1, 1}},
		{[]int{1000, -1000}, []int{0, -2000}},
		{[]int{-1000, 999}, []int{-1, 1999}},
		{[]int{5, 8, 3, -4}, []int{6, -1, 3, -7}},
		{[]int{1, 2, 3, 4, 5, 6}, []int{1, 3, 5, 1, 1, 1}},
		{repeated(-7, 16), append(repeated(-7, 8), repeated(0, 8)...)},
	})
	for _, row := range append(evenRows(), equalSteps()...) {
		sameNumbers(t, "HalveOf", row, impl.HalveOf(row), halvesOf(row))
	}
}

func TestUnhalveOf(t *testing.T) {
	checkExamples(t, "UnhalveOf", impl.UnhalveOf, []example{
		{nil, nil},
		{[]int{1}, nil},
		{[]int{1, 2, 3}, nil},
		{[]int{4, 0}, []int{4, 4}},
		{[]int{5, 3}, []int{4, 7}},
		{[]int{5, -3}, []int{7, 4}},
		{[]int{-6, -3}, []int{-4, -7}},
		{[]int{-1, -1}, []int{0, -1}},
		{[]int{6, -1, 3, -7}, []int{5, 8, 3, -4}},
		{[]int{1000, 1000}, []int{500, 1500}},
		{[]int{-1000, -999}, []int{-500, -1499}},
		{repeated(3, 16), slices.Repeat([]int{2, 5}, 8)},
	})
	for _, row := range evenRows() {
		sameNumbers(t, "the halves of UnhalveOf", row, halvesOf(impl.UnhalveOf(row)), row)
	}
}

func TestHalveAll(t *testing.T) {
	checkExamples(t, "HalveAll", impl.HalveAll, []example{
		{[]int{9}, []int{9}},
		{[]int{-1000}, []int{-1000}},
		{[]int{4, 7}, []int{5, 3}},
		{[]int{0, -1}, []int{-1, -1}},
		{[]int{5, 8, 3, -4}, []int{2, -7, 3, -7}},
		{[]int{1, 2, 3, 4, 5, 6, 7, 8}, []int{4, 4, 2, 2, 1, 1, 1, 1}},
		{[]int{0, 0, 0, -1, 0, 0, 0, 0}, []int{-1, 1, -1, 0, 0, -1, 0, 0}},
		{repeated(1000, 16), append([]int{1000}, repeated(0, 15)...)},
		{[]int{1, 2, 3}, nil},
		{[]int{1, 2, 3, 4, 5, 6}, nil},
	})
	for _, row := range binaryRows() {
		sameNumbers(t, "HalveAll", row, impl.HalveAll(row), allHalvesOf(row))
	}
}

func TestUnhalveAll(t *testing.T) {
	checkExamples(t, "UnhalveAll", impl.UnhalveAll, []example{
		{[]int{9}, []int{9}},
		{[]int{5, 3}, []int{4, 7}},
		{[]int{-1, -1}, []int{0, -1}},
		{[]int{2, -7, 3, -7}, []int{5, 8, 3, -4}},
		{[]int{4, 4, 2, 2, 1, 1, 1, 1}, []int{1, 2, 3, 4, 5, 6, 7, 8}},
		{append([]int{1000}, repeated(0, 15)...), repeated(1000, 16)},
		{[]int{1000, 1000, 1000, 1000}, []int{0, 1000, 1000, 2000}},
		{[]int{1, 2, 3}, nil},
		{[]int{1, 2, 3, 4, 5, 6}, nil},
	})
	for _, row := range binaryRows() {
		sameNumbers(t, "the halves of UnhalveAll", row, allHalvesOf(impl.UnhalveAll(row)), row)
	}
}

func TestLeapOf(t *testing.T) {
	checkExamples(t, "LeapOf", impl.LeapOf, []example{
		{nil, nil},
		{[]int{}, nil},
		{[]int{1}, nil},
		{[]int{1, 2, 3}, nil},
		{[]int{4, 4}, []int{4, 0}},
		{[]int{0, -3}, []int{-1, -3}},
		{[]int{0, 3}, []int{2, 3}},
		{[]int{0, 1}, []int{1, 1}},
		{[]int{0, -1}, []int{0, -1}},
		{[]int{0, -2}, []int{-1, -2}},
		{[]int{1000, -1000}, []int{0, -2000}},
		{[]int{1, 2, 3, 4}, []int{1, 3, 0, 1}},
		{[]int{4, 3, 2, 1}, []int{4, 2, 0, -1}},
		{[]int{0, 0, -1, 0}, []int{1, 0, 1, 1}},
		{[]int{5, 8, 3, -4}, []int{7, 2, 4, -7}},
		{[]int{0, 10, 0, 0, 0, -10}, []int{5, 3, -2, 10, 0, -10}},
		{repeated(-7, 16), append(repeated(-7, 8), repeated(0, 8)...)},
	})
	for _, row := range append(evenRows(), equalSteps()...) {
		sameNumbers(t, "LeapOf", row, impl.LeapOf(row), leapsOf(row))
	}
}

func TestUnleapOf(t *testing.T) {
	checkExamples(t, "UnleapOf", impl.UnleapOf, []example{
		{nil, nil},
		{[]int{1}, nil},
		{[]int{1, 2, 3}, nil},
		{[]int{4, 0}, []int{4, 4}},
		{[]int{-1, -3}, []int{0, -3}},
		{[]int{1, 1}, []int{0, 1}},
		{[]int{0, -1}, []int{0, -1}},
		{[]int{1, 3, 0, 1}, []int{1, 2, 3, 4}},
		{[]int{4, 2, 0, -1}, []int{4, 3, 2, 1}},
		{[]int{7, 2, 4, -7}, []int{5, 8, 3, -4}},
		{[]int{5, 3, -2, 10, 0, -10}, []int{0, 10, 0, 0, 0, -10}},
		{[]int{1000, 1000}, []int{500, 1500}},
	})
	for _, row := range evenRows() {
		sameNumbers(t, "the leaps of UnleapOf", row, leapsOf(impl.UnleapOf(row)), row)
	}
}

func TestDropSmall(t *testing.T) {
	for _, e := range []struct {
		row  []int
		edge int
		want []int
	}{
		{nil, 0, nil},
		{nil, 1000, nil},
		{[]int{1}, 5, []int{1}},
		{[]int{1, 2}, 0, []int{1, 2}},
		{[]int{1, 2}, 2, []int{1, 2}},
		{[]int{1, 2}, 3, []int{1, 0}},
		{[]int{-1, -2}, 2, []int{-1, -2}},
		{[]int{-1, -2}, 3, []int{-1, 0}},
		{[]int{0, 0}, 1, []int{0, 0}},
		{[]int{1, 1, 1}, 2, []int{1, 1, 0}},
		{[]int{1, 1, 2, -2, 3}, 3, []int{1, 1, 2, 0, 3}},
		{[]int{1, 2, 3, -3, 3, 2, -2, 4}, 3, []int{1, 2, 3, -3, 3, 0, 0, 4}},
		{[]int{5, 999, 1000, -1000}, 1000, []int{5, 999, 1000, -1000}},
		{[]int{5, 1000, 999, -999}, 1000, []int{5, 1000, 0, 0}},
		{repeated(1, 15), 2, append(repeated(1, 8), repeated(0, 7)...)},
		{repeated(1, 16), 2, append(repeated(1, 8), repeated(0, 8)...)},
	} {
		sameNumbers(t, "DropSmall", append(slices.Clone(e.row), e.edge), impl.DropSmall(e.row, e.edge), e.want)
	}
	for _, row := range sampleRows() {
		for _, edge := range []int{0, 1, 2, 3, 30, 999, 1000} {
			sameNumbers(t, "DropSmall", append(slices.Clone(row), edge), impl.DropSmall(row, edge), droppedOf(row, edge))
		}
	}
}

// droppedOf returns the row without small numbers by the definition.
func droppedOf(row []int, edge int) []int {
	dropped := slices.Clone(row)
	for count := range len(row) / 2 {
		place := len(row) - 1 - count
		if max(row[place], -row[place]) < edge {
			dropped[place] = 0
		}
	}
	return dropped
}

func TestOtherEdgesDropNothing(t *testing.T) {
	for _, row := range [][]int{nil, {1}, {1, 2}, repeated(5, 16)} {
		for _, edge := range []int{-1, -1000, 1001, math.MaxInt, math.MinInt} {
			sameNumbers(t, "DropSmall", append(slices.Clone(row), edge), impl.DropSmall(row, edge), nil)
		}
	}
	for _, row := range wrongRows() {
		for _, edge := range []int{-1, 0, 1, 1000, 1001} {
			sameNumbers(t, "DropSmall", append(slices.Clone(row), edge), impl.DropSmall(row, edge), nil)
		}
	}
}
