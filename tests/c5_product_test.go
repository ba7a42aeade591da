package tests

import (
	"math"
	"math/big"
	"runtime"
	"slices"
	"testing"

	"loop.example/wholewaves/impl"
)

// rowPairs returns pairs of rows of all lengths, from none to all numbers and
// from small numbers to the limits.
func rowPairs() [][2][]int {
	var pairs [][2][]int
	for length := range 17 {
		for other := range 17 {
			for _, limit := range []int{1, 9, 1000} {
				a := mixedRows(length, limit, 3)
				b := mixedRows(other, max(limit-1, 1), 3)
				for i := range a {
					pairs = append(pairs, [2][]int{a[i], b[i]})
				}
			}
			pairs = append(pairs, [2][]int{repeated(1000, length), repeated(-1000, other)})
		}
	}
	return pairs
}

// productOf returns the sums of products by their definition.
func productOf(a []int, b []int) []int {
	if len(a) == 0 || len(b) == 0 {
		return nil
	}
	sums := make([]int, len(a)+len(b)-1)
	for n := range sums {
		for i := range a {
			if n >= i && n-i < len(b) {
				sums[n] += a[i] * b[n-i]
			}
		}
	}
	return sums
}

func TestTimesOf(t *testing.T) {
	for _, e := range []struct{ a, b, want []int }{
		{nil, nil, nil},
		{nil, []int{1}, nil},
		{[]int{1, 2, 3}, []int{}, nil},
		{[]int{3}, []int{-4}, []int{-12}},
		{[]int{0}, []int{5, 6}, []int{0, 0}},
		{[]int{1}, []int{5, 6, 7}, []int{5, 6, 7}},
		{[]int{5, 6, 7}, []int{0, 1}, []int{0, 5, 6, 7}},
		{[]int{1, 1}, []int{1, -1}, []int{1, 0, -1}},
		{[]int{1, 2}, []int{3, 0, 1}, []int{3, 6, 1, 2}},
		{[]int{1, 2, 3}, []int{4, 5, 6}, []int{4, 13, 28, 27, 18}},
		{[]int{1000}, repeated(-1000, 16), repeated(-1_000_000, 16)},
		{[]int{1, -1}, repeated(1, 16), append(append([]int{1}, repeated(0, 15)...), -1)},
	} {
		sameNumbers(t, "TimesOf", slices.Concat(e.a, e.b), impl.TimesOf(e.a, e.b), e.want)
	}
	for _, pair := range rowPairs() {
		a, b := pair[0], pair[1]
		sameNumbers(t, "TimesOf", slices.Concat(a, b), impl.TimesOf(a, b), productOf(a, b))
	}
}

func TestOthersHaveNoProducts(t *testing.T) {
	for _, other := range wrongRows() {
		for _, row := range [][]int{nil, {1}, {1, 2}, repeated(1, 16), other} {
			sameNumbers(t, "TimesOf a row and others", other, impl.TimesOf(row, other), nil)
			sameNumbers(t, "TimesOf others and a row", other, impl.TimesOf(other, row), nil)
		}
	}
}

// checkParts fails unless PartOf returns just these parts.
func checkParts(t *testing.T, a []int, b []int, parts []int, left []int, want bool) {
	t.Helper()
	gotParts, gotLeft, ok := impl.PartOf(a, b)
	if ok != want || !slices.Equal(gotParts, parts) || !slices.Equal(gotLeft, left) {
		t.Errorf("PartOf(%v, %v) = %v, %v, %v, want %v, %v, %v", a, b, gotParts, gotLeft, ok, parts, left, want)
	}
}

// partsOf divides by hand, in numbers of any size, and reports whether all of
// them stay within 64 bits.
func partsOf(a []int, b []int) ([]int, []int, bool) {
	left := make([]*big.Int, len(a))
	for i, number := range a {
		left[i] = big.NewInt(int64(number))
	}
	parts := make([]int, len(a)-len(b)+1)
	for k := len(parts) - 1; k >= 0; k-- {
		factor := new(big.Int).Set(left[k+len(b)-1])
		parts[k] = int(factor.Int64())
		for j, number := range b {
			amount := new(big.Int).Mul(factor, big.NewInt(int64(number)))
			left[k+j].Sub(left[k+j], amount)
			if !amount.IsInt64() || !left[k+j].IsInt64() {
				return nil, nil, false
			}
		}
	}
	rest := make([]int, len(b)-1)
	for i := range rest {
		rest[i] = int(left[i].Int64())
	}
	return parts, rest, true
}

func TestPartOf(t *testing.T) {
	for _, e := range []struct{ a, b, parts, left []int }{
		{[]int{5}, []int{1}, []int{5}, nil},
		{[]int{0}, []int{1}, []int{0}, nil},
		{[]int{1, 2}, []int{1}, []int{1, 2}, nil},
		{repeated(-1000, 16), []int{1}, repeated(-1000, 16), nil},
		{[]int{1, 2, 3}, []int{1, 1}, []int{-1, 3}, []int{2}},
		{[]int{1, 2, 3}, []int{0, 1}, []int{2, 3}, []int{1}},
		{[]int{1, 2, 3}, []int{4, 5, 1}, []int{3}, []int{-11, -13}},
		{[]int{1, 2, 0}, []int{4, 5, 1}, []int{0}, []int{1, 2}},
		{[]int{3, 6, 1, 2}, []int{3, 0, 1}, []int{1, 2}, []int{0, 0}},
		{[]int{4, 13, 28, 27, 18}, []int{1, 2, 1}, []int{28, -9, 18}, []int{-24, -34}},
		{[]int{-1, 0, 0, 0, 1}, []int{-1, 1}, []int{1, 1, 1, 1}, []int{0}},
		{append(repeated(0, 15), 1), []int{-2, 1}, []int{16384, 8192, 4096, 2048, 1024, 512, 256, 128, 64, 32, 16, 8, 4, 2, 1}, []int{32768}},
		{repeated(7, 16), append(repeated(1000, 15), 1), []int{7}, repeated(7-7000, 15)},
	} {
		checkParts(t, e.a, e.b, e.parts, e.left, true)
	}
}

func TestPartOfByHand(t *testing.T) {
	held, left := 0, 0
	for _, pair := range dividable() {
		parts, rest, ok := partsOf(pair[0], pair[1])
		checkParts(t, pair[0], pair[1], parts, rest, ok)
		if ok {
			held++
		} else {
			left++
		}
	}
	if held < 100 || left < 100 {
		t.Errorf("%d pairs stay within 64 bits, %d do not", held, left)
	}
}

// dividable returns pairs of rows of which the second one has 1 at its end and
// not more numbers than the first one.
func dividable() [][2][]int {
	var pairs [][2][]int
	for _, pair := range rowPairs() {
		b := append(slices.Clone(pair[1]), 1)
		if len(b) <= len(pair[0]) {
			pairs = append(pairs, [2][]int{pair[0], b})
		}
	}
	return pairs
}

// TestPartsAtTheEndOf64Bits divides by rows that make what is left a number
// with the digits of the row, just within and just beyond 64 bits.
func TestPartsAtTheEndOf64Bits(t *testing.T) {
	digits := []int{807, 775, 854, 36, 372, 223, 9}
	parts := []int{9223372036854775, 9223372036854, 9223372036, 9223372, 9223, 9}
	checkParts(t, digits, []int{-1000, 1}, parts, []int{math.MaxInt}, true)
	checkParts(t, append([]int{5}, digits...), []int{0, -1000, 1}, parts, []int{5, math.MaxInt}, true)
	digits[0] = 808
	checkParts(t, digits, []int{-1000, 1}, nil, nil, false)
	below, partsBelow := timesEach(digits, -1), timesEach(parts, -1)
	checkParts(t, below, []int{-1000, 1}, partsBelow, []int{math.MinInt}, true)
	below[0] = -809
	checkParts(t, below, []int{-1000, 1}, nil, nil, false)
	digits[0] = 807
	checkParts(t, append([]int{5}, digits...), []int{-1000, 1}, nil, nil, false)
}

// TestProductsOnTheWayCount checks that a product beyond 64 bits counts, also
// if the difference would be within them.
func TestProductsOnTheWayCount(t *testing.T) {
	row := append(repeated(0, 7), -1)
	// 512 to the power 7 is 2 to the power 63.
	checkParts(t, row, []int{-512, 1}, nil, nil, false)
	checkParts(t, row[1:], []int{-512, 1}, []int{-1 << 45, -1 << 36, -1 << 27, -1 << 18, -1 << 9, -1}, []int{-1 << 54}, true)
	// A product of just -2 to the power 63 is within 64 bits. So is -1 less it,
	// but 0 less it is not.
	parts := []int{-1 << 54, 1 << 45, -1 << 36, 1 << 27, -1 << 18, 1 << 9, -1}
	checkParts(t, append([]int{-1}, row[1:]...), []int{512, 1}, parts, []int{math.MaxInt}, true)
	checkParts(t, row, []int{512, 1}, nil, nil, false)
}

func TestOthersHaveNoParts(t *testing.T) {
	row := []int{1, 2, 3}
	divisors := append(wrongRows(), nil, []int{}, []int{0}, []int{2}, []int{-1}, []int{1, 0}, []int{1, 2}, []int{1, 1, -1}, []int{1, 2, 3, 1}, append(repeated(0, 15), 1), []int{1001, 1}, []int{-1001, 1}, append(repeated(0, 16), 1))
	for _, b := range divisors {
		checkParts(t, row, b, nil, nil, false)
		checkParts(t, nil, b, nil, nil, false)
	}
	checkParts(t, nil, []int{1}, nil, nil, false)
	checkParts(t, []int{5}, []int{0, 1}, nil, nil, false)
	for _, a := range wrongRows() {
		for _, b := range [][]int{nil, {1}, {2, 1}, a} {
			checkParts(t, a, b, nil, nil, false)
		}
	}
}

// boxExample is a row, a width, and what a function of boxes must return.
type boxExample struct {
	row   []int
	width int
	want  []int
}

func checkBoxExamples(t *testing.T, name string, function func([]int, int) []int, examples []boxExample) {
	t.Helper()
	for _, e := range examples {
		sameNumbers(t, name, append(slices.Clone(e.row), e.width), function(e.row, e.width), e.want)
	}
}

func TestBoxSums(t *testing.T) {
	checkBoxExamples(t, "BoxSums", impl.BoxSums, []boxExample{
		{[]int{5}, 1, []int{5}},
		{[]int{5, -7}, 1, []int{5, -7}},
		{[]int{5, -7}, 2, []int{-2}},
		{[]int{1, 2, 3, 4}, 2, []int{3, 5, 7}},
		{[]int{1, 2, 3, 4}, 3, []int{6, 9}},
		{[]int{1, 2, 3, 4}, 4, []int{10}},
		{repeated(1000, 16), 16, []int{16000}},
		{repeated(-1000, 16), 15, []int{-15000, -15000}},
	})
	checkBoxes(t, "BoxSums", impl.BoxSums, totalOf, func(width int) bool { return true })
}

func TestMiddlesOf(t *testing.T) {
	checkBoxExamples(t, "MiddlesOf", impl.MiddlesOf, []boxExample{
		{[]int{5}, 1, []int{5}},
		{[]int{5, -7}, 1, []int{5, -7}},
		{[]int{5, -7}, 2, nil},
		{[]int{3, 1, 2}, 3, []int{2}},
		{[]int{3, 1, 2}, 2, nil},
		{[]int{4, 4, -4}, 3, []int{4}},
		{[]int{5, 1, 9, 9, 0}, 3, []int{5, 9, 9}},
		{[]int{5, 1, 9, 9, 0}, 5, []int{5}},
		{[]int{1000, -1000, 0, -1, 1}, 3, []int{0, -1, 0}},
		{append(repeated(-2, 8), repeated(7, 8)...), 15, []int{-2, 7}},
		{repeated(3, 16), 16, nil},
	})
	checkBoxes(t, "MiddlesOf", impl.MiddlesOf, middleOf, func(width int) bool { return width%2 == 1 })
}

// middleOf returns the number in the middle, of which there is just one among
// an odd number of them.
func middleOf(numbers []int) int {
	return numbers[slices.IndexFunc(numbers, func(number int) bool { return isMiddle(number, numbers) })]
}

// isMiddle reports whether at most half of the numbers are less than the
// middle, and at most half more.
func isMiddle(middle int, numbers []int) bool {
	less, more := 0, 0
	for _, number := range numbers {
		if number < middle {
			less++
		}
		if number > middle {
			more++
		}
	}
	return 2*less <= len(numbers) && 2*more <= len(numbers)
}

// checkBoxes holds a function of boxes against the value of each of them, for
// all widths that are right, and checks that it gives nothing for the others.
func checkBoxes(t *testing.T, name string, function func([]int, int) []int, value func([]int) int, right func(int) bool) {
	t.Helper()
	for _, row := range sampleRows() {
		for width := -1; width <= len(row)+1; width++ {
			var want []int
			for i := 0; width > 0 && right(width) && i+width <= len(row); i++ {
				want = append(want, value(row[i:i+width]))
			}
			sameNumbers(t, name, append(slices.Clone(row), width), function(row, width), want)
		}
	}
	for _, width := range []int{-17, -3, 17, 19, math.MaxInt, math.MinInt, math.MinInt + 1} {
		for _, row := range [][]int{nil, {1}, {1, 2, 3}, repeated(1, 16)} {
			sameNumbers(t, name, append(slices.Clone(row), width), function(row, width), nil)
		}
	}
	for _, row := range wrongRows() {
		for _, width := range []int{-1, 0, 1, 3, len(row), 17} {
			sameNumbers(t, name, append(slices.Clone(row), width), function(row, width), nil)
		}
	}
}

// selfOf returns the sums of products of numbers that are apart by their
// definition.
func selfOf(row []int) []int {
	sums := make([]int, len(row))
	for i := range row {
		for j := i; j < len(row); j++ {
			sums[j-i] += row[i] * row[j]
		}
	}
	return sums
}

func TestSelfOf(t *testing.T) {
	checkExamples(t, "SelfOf", impl.SelfOf, []example{
		{nil, nil},
		{[]int{}, nil},
		{[]int{0}, []int{0}},
		{[]int{-7}, []int{49}},
		{[]int{1, 2}, []int{5, 2}},
		{[]int{1, 2, 3}, []int{14, 8, 3}},
		{[]int{3, -2, 1}, []int{14, -8, 3}},
		{[]int{1, 0, 0, 5}, []int{26, 0, 0, 5}},
		{[]int{1, 1, 1, -1, 1}, []int{5, 0, 1, 0, 1}},
		{[]int{1000, -1000}, []int{2_000_000, -1_000_000}},
	})
	for _, row := range sampleRows() {
		sameNumbers(t, "SelfOf", row, impl.SelfOf(row), selfOf(row))
	}
}

// quiet reports whether a row of 1 and -1 is quiet by the definition.
func quiet(row []int) bool {
	for _, sum := range selfOf(row)[1:] {
		if max(sum, -sum) > 1 {
			return false
		}
	}
	return true
}

func TestIsQuiet(t *testing.T) {
	for _, row := range [][]int{
		{1}, {-1}, {1, 1}, {1, -1}, {-1, -1}, {1, 1, -1}, {1, 1, 1, -1}, {1, 1, -1, 1}, {1, 1, 1, -1, 1},
		{1, 1, 1, -1, -1, 1, -1},
		{1, 1, 1, -1, -1, -1, 1, -1, -1, 1, -1},
		{1, 1, 1, 1, 1, -1, -1, 1, 1, -1, 1, -1, 1},
	} {
		if !impl.IsQuiet(row) {
			t.Errorf("IsQuiet(%v) = false", row)
		}
	}
	others := append(wrongRows(), nil, []int{},
		[]int{0}, []int{2}, []int{-2}, []int{1000}, []int{1, 0}, []int{0, 1}, []int{1, 2}, []int{1, 1, 0, 1},
		[]int{1, 1, 1}, []int{-1, -1, -1}, []int{1, -1, 1}, []int{1, 1, 1, 1}, []int{1, -1, 1, -1},
		repeated(1, 16), append(repeated(0, 15), 1), repeated(0, 16))
	for _, row := range others {
		if impl.IsQuiet(row) {
			t.Errorf("IsQuiet(%v) = true", row)
		}
	}
}

// TestAllQuietRows holds IsQuiet against the sums, and against how many quiet
// rows there are known to be.
func TestAllQuietRows(t *testing.T) {
	known := []int{0, 2, 4, 4, 8, 4, 0, 4, 0, 0, 0, 4, 0, 4}
	for count := 1; count < len(known); count++ {
		found := 0
		for _, row := range signRows(count) {
			if impl.IsQuiet(row) != quiet(row) {
				t.Errorf("IsQuiet(%v) = %v", row, !quiet(row))
			}
			if impl.IsQuiet(row) {
				found++
			}
		}
		sameNumber(t, "rows for which IsQuiet holds, of numbers", []int{count}, found, known[count])
	}
}

// longPairs returns pairs that make up for each other and are not doubled ones,
// or too long to double.
func longPairs() [][2][]int {
	return [][2][]int{
		{{1, 1, -1, 1, -1, 1, -1, -1, 1, 1}, {1, 1, -1, 1, 1, 1, 1, 1, -1, -1}},
		{
			{1, 1, 1, -1, 1, 1, -1, 1, 1, 1, 1, -1, -1, -1, 1, -1},
			{1, 1, 1, -1, 1, 1, -1, 1, -1, -1, -1, 1, 1, 1, -1, 1},
		},
	}
}

// shortPairs returns pairs that make up for each other, short enough to double.
func shortPairs() [][2][]int {
	pairs := [][2][]int{{{1}, {1}}, {{1}, {-1}}, {{-1}, {1}}, {{-1}, {-1}}}
	for _, count := range []int{2, 4} {
		for _, a := range signRows(count) {
			for _, b := range signRows(count) {
				if paired(a, b) {
					pairs = append(pairs, [2][]int{a, b})
				}
			}
		}
	}
	return append(pairs, [2][]int{{1, 1, 1, -1, 1, 1, -1, 1}, {1, 1, 1, -1, -1, -1, 1, -1}})
}

// paired reports whether two rows of as many 1 and -1 make up for each other by
// the definition.
func paired(a []int, b []int) bool {
	first, second := selfOf(a), selfOf(b)
	for d := 1; d < len(a); d++ {
		if first[d] != -second[d] {
			return false
		}
	}
	return true
}

func TestArePaired(t *testing.T) {
	for _, pair := range append(shortPairs(), longPairs()...) {
		if !impl.ArePaired(pair[0], pair[1]) {
			t.Errorf("ArePaired(%v, %v) = false", pair[0], pair[1])
		}
	}
	for _, pair := range unpaired() {
		if impl.ArePaired(pair[0], pair[1]) {
			t.Errorf("ArePaired(%v, %v) = true", pair[0], pair[1])
		}
	}
}

// unpaired returns rows that are no pair: of other lengths, of other numbers,
// like themselves elsewhere, or too long.
func unpaired() [][2][]int {
	pairs := [][2][]int{
		{nil, nil}, {{}, nil}, {nil, {1}}, {{1}, nil},
		{{1}, {1, -1}}, {{1, 1}, {1}}, {{1, 1}, {1, 1}}, {{1, -1}, {1, -1}}, {{1, 1}, {-1, -1}},
		{{0}, {0}}, {{1}, {0}}, {{2}, {1}}, {{1}, {-2}}, {{1, 0}, {1, 0}}, {{0, 1}, {1, 0}}, {{1, 1}, {1, 0}}, {{2, 2}, {2, -2}},
		{{1, 1, 1}, {1, -1, 1}}, {{1, 1, -1}, {1, 1, 1}}, {{1, 1, 1, -1}, {1, 1, 1, -1}},
		{repeated(1, 16), repeated(1, 16)}, {repeated(0, 16), repeated(0, 16)},
	}
	// Doubled, these make up for each other, too, but are no rows.
	for _, pair := range longPairs() {
		a, b := pair[0], pair[1]
		pairs = append(pairs, [2][]int{slices.Concat(a, b), slices.Concat(a, timesEach(b, -1))})
	}
	for _, other := range wrongRows() {
		for _, row := range [][]int{nil, {1}, {1, -1}, repeated(1, len(other)), other} {
			pairs = append(pairs, [2][]int{row, other}, [2][]int{other, row})
		}
	}
	return pairs
}

// TestAllPairs holds ArePaired against the sums, and against how many pairs
// there are known to be.
func TestAllPairs(t *testing.T) {
	known := []int{0, 4, 8, 0, 32, 0, 0, 0}
	for count := 1; count < len(known); count++ {
		found := 0
		for _, a := range signRows(count) {
			for _, b := range signRows(count) {
				holds := impl.ArePaired(a, b)
				if holds != paired(a, b) {
					t.Errorf("ArePaired(%v, %v) = %v", a, b, holds)
				}
				if holds {
					found++
				}
			}
		}
		sameNumber(t, "pairs for which ArePaired holds, of numbers", []int{count}, found, known[count])
	}
}

// checkDoubles fails unless DoublePair returns just these rows.
func checkDoubles(t *testing.T, a []int, b []int, first []int, second []int, want bool) {
	t.Helper()
	gotFirst, gotSecond, ok := impl.DoublePair(a, b)
	if ok != want || !slices.Equal(gotFirst, first) || !slices.Equal(gotSecond, second) {
		t.Errorf("DoublePair(%v, %v) = %v, %v, %v, want %v, %v, %v", a, b, gotFirst, gotSecond, ok, first, second, want)
	}
}

func TestDoublePair(t *testing.T) {
	checkDoubles(t, []int{1}, []int{1}, []int{1, 1}, []int{1, -1}, true)
	checkDoubles(t, []int{1}, []int{-1}, []int{1, -1}, []int{1, 1}, true)
	checkDoubles(t, []int{1, 1}, []int{1, -1}, []int{1, 1, 1, -1}, []int{1, 1, -1, 1}, true)
	for _, pair := range shortPairs() {
		a, b := pair[0], pair[1]
		checkDoubles(t, a, b, slices.Concat(a, b), slices.Concat(a, timesEach(b, -1)), true)
	}
	for _, pair := range append(unpaired(), longPairs()...) {
		checkDoubles(t, pair[0], pair[1], nil, nil, false)
	}
}

// filled returns the numbers and one more in their spare capacity.
func filled(numbers []int) []int {
	return append(slices.Clone(numbers), 77)
}

// TestRowsOfTwoStay checks of the functions of two rows that neither of them is
// changed, nor through a result, and that a result does not change another one.
func TestRowsOfTwoStay(t *testing.T) {
	functions := map[string]func(a []int, b []int) [2][]int{
		"TimesOf": func(a []int, b []int) [2][]int { return [2][]int{impl.TimesOf(a, b)} },
		"PartOf": func(a []int, b []int) [2][]int {
			parts, left, _ := impl.PartOf(a, b)
			return [2][]int{parts, left}
		},
		"DoublePair": func(a []int, b []int) [2][]int {
			first, second, _ := impl.DoublePair(a, b)
			return [2][]int{first, second}
		},
		"ArePaired": func(a []int, b []int) [2][]int {
			impl.ArePaired(a, b)
			return [2][]int{}
		},
	}
	for name, function := range functions {
		for _, pair := range [][2][]int{{{1, 1, 1, -1}, {1, -1, 1, 1}}, {{1, 1, 1, -1}, {1, 1}}, {{5}, {1}}, {{1}, {-1}}} {
			a, b := filled(pair[0]), filled(pair[1])
			results := function(a[:len(a)-1], b[:len(b)-1])
			want := slices.Clone(results[1])
			for i := range results[0][:cap(results[0])] {
				results[0][:cap(results[0])][i] = 999
			}
			sameNumbers(t, "the second result of "+name, pair[0], results[1], want)
			for i := range results[1][:cap(results[1])] {
				results[1][:cap(results[1])][i] = 888
			}
			for _, number := range results[0] {
				sameNumber(t, "a number of the first result of "+name, pair[0], number, 999)
			}
			sameNumbers(t, "the first row of "+name, pair[0], a, filled(pair[0]))
			sameNumbers(t, "the second row of "+name, pair[1], b, filled(pair[1]))
		}
	}
}

// TestNoCallStaysBehind checks that no function of the chapter leaves something
// that still runs, or waits, when it returns.
func TestNoCallStaysBehind(t *testing.T) {
	before := runtime.NumGoroutine()
	for range 500 {
		for _, pair := range [][2][]int{{nil, nil}, {{1, 1}, {1, -1}}, {{1}, {1, 2, 3}}, {repeated(2, 16), {0, 1}}, {{1001}, {1}}} {
			a, b := pair[0], pair[1]
			impl.TimesOf(a, b)
			impl.PartOf(a, b)
			impl.SelfOf(a)
			impl.IsQuiet(a)
			impl.ArePaired(a, b)
			impl.DoublePair(a, b)
		}
	}
	// One that has done all may still be about to end.
	for range 1000 {
		runtime.Gosched()
	}
	if after := runtime.NumGoroutine(); after > before+100 {
		t.Errorf("%d calls stay behind", after-before)
	}
}
