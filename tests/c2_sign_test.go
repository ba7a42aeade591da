package tests

import (
	"math"
	"math/bits"
	"slices"
	"testing"

	"loop.example/wholewaves/impl"
)

func mixKinds() []string {
	return []string{"or", "and", "xor"}
}

// signAt is the sign with which the number at x stands in the sum at y.
func signAt(x int, y int) int {
	if bits.OnesCount(uint(x)&uint(y))%2 == 1 {
		return -1
	}
	return 1
}

// signSums returns the sums with signs by their definition.
func signSums(row []int) []int {
	sums := make([]int, len(row))
	for y := range row {
		for x := range row {
			sums[y] += signAt(x, y) * row[x]
		}
	}
	return sums
}

// signRows returns all rows of count numbers that are 1 or -1.
func signRows(count int) [][]int {
	rows := make([][]int, 1<<count)
	for r := range rows {
		rows[r] = make([]int, count)
		for i := range rows[r] {
			rows[r][i] = 1 - 2*(r>>i&1)
		}
	}
	return rows
}

func TestSignsOf(t *testing.T) {
	checkExamples(t, "SignsOf", impl.SignsOf, []example{
		{[]int{-7}, []int{-7}},
		{[]int{0}, []int{0}},
		{[]int{2, 5}, []int{7, -3}},
		{[]int{1, 2, 3, 4}, []int{10, -2, -4, 0}},
		{[]int{1, 1, 1, -1}, []int{2, 2, 2, -2}},
		{[]int{4, 4, 4, 4}, []int{16, 0, 0, 0}},
		{[]int{0, 0, 0, 0, 0, 0, 0, 1}, []int{1, -1, -1, 1, -1, 1, 1, -1}},
		{append([]int{1000}, repeated(0, 15)...), repeated(1000, 16)},
		{repeated(-1000, 16), append([]int{-16000}, repeated(0, 15)...)},
	})
	for _, row := range binaryRows() {
		sameNumbers(t, "SignsOf", row, impl.SignsOf(row), signSums(row))
	}
}

func TestUnsignsOf(t *testing.T) {
	examples := []struct {
		row  []int
		want []int
		ok   bool
	}{
		{[]int{-7}, []int{-7}, true},
		{[]int{0, 0}, []int{0, 0}, true},
		{[]int{7, -3}, []int{2, 5}, true},
		{[]int{10, -2, -4, 0}, []int{1, 2, 3, 4}, true},
		{[]int{2, 2, 2, -2}, []int{1, 1, 1, -1}, true},
		{repeated(1000, 16), append([]int{1000}, repeated(0, 15)...), true},
		{[]int{1, 0}, nil, false},
		{[]int{-1, 0}, nil, false},
		{[]int{2, 2, 0, 0, 0, 0, 0, 0}, nil, false},
		{[]int{4, 0, 0, 2}, nil, false},
		{append([]int{8}, repeated(0, 15)...), nil, false},
		{nil, nil, false},
		{[]int{3, 3, 3}, nil, false},
		{[]int{1001}, nil, false},
		{[]int{0, -1002}, nil, false},
		{repeated(0, 32), nil, false},
	}
	for _, e := range examples {
		got, ok := impl.UnsignsOf(e.row)
		sameNumbers(t, "UnsignsOf", e.row, got, e.want)
		if ok != e.ok {
			t.Errorf("UnsignsOf(%v) is %t", e.row, ok)
		}
	}
}

// TestUnsignsOfBySums holds UnsignsOf against the sums with signs, of which
// each must be a multiple of how many there are.
func TestUnsignsOfBySums(t *testing.T) {
	answers := map[bool]int{}
	for _, row := range binaryRows() {
		want, whole := signSums(row), true
		for i := range want {
			whole = whole && want[i]%len(row) == 0
			want[i] /= len(row)
		}
		if !whole {
			want = nil
		}
		got, ok := impl.UnsignsOf(row)
		sameNumbers(t, "UnsignsOf", row, got, want)
		if ok != whole {
			t.Errorf("UnsignsOf(%v) is %t", row, ok)
		}
		answers[ok]++
	}
	if answers[true] == 0 || answers[false] == 0 {
		t.Errorf("UnsignsOf is only checked for some answers: %v", answers)
	}
}

func TestWrongRowsHaveNoUnsigns(t *testing.T) {
	for _, row := range append(wrongRows(), repeated(0, 3), repeated(0, 15), nil) {
		if got, ok := impl.UnsignsOf(row); ok || len(got) != 0 {
			t.Errorf("UnsignsOf(%v) = %v, %t", row, got, ok)
		}
	}
}

func TestChangesIn(t *testing.T) {
	examples := []example{
		{[]int{0}, []int{0}},
		{[]int{1}, []int{0, 1}},
		{[]int{2}, []int{0, 3, 1, 2}},
		{[]int{3}, []int{0, 7, 3, 4, 1, 6, 2, 5}},
		{[]int{4}, []int{0, 15, 7, 8, 3, 12, 4, 11, 1, 14, 6, 9, 2, 13, 5, 10}},
	}
	for _, e := range examples {
		for y, want := range e.want {
			input := []int{e.row[0], y}
			sameNumber(t, "ChangesIn", input, impl.ChangesIn(input[0], y), want)
		}
	}
}

func TestOtherIndicesHaveNoChanges(t *testing.T) {
	for _, input := range [][]int{
		{0, 1}, {0, -1}, {1, 2}, {2, 4}, {2, -1}, {3, 8}, {4, 16}, {4, -1}, {4, 1 << 40},
		{5, 0}, {5, 31}, {6, 1}, {-1, 0}, {-1, 1}, {63, 0}, {64, 0}, {65, 1},
		{2, math.MaxInt}, {2, math.MinInt}, {math.MaxInt, 0}, {math.MinInt, 0}, {math.MinInt, math.MinInt},
	} {
		sameNumber(t, "ChangesIn", input, impl.ChangesIn(input[0], input[1]), -1)
	}
}

func TestOrderOf(t *testing.T) {
	examples := []example{
		{[]int{0}, []int{0}},
		{[]int{1}, []int{0, 1}},
		{[]int{2}, []int{0, 2, 3, 1}},
		{[]int{3}, []int{0, 4, 6, 2, 3, 7, 5, 1}},
		{[]int{4}, []int{0, 8, 12, 4, 6, 14, 10, 2, 3, 11, 15, 7, 5, 13, 9, 1}},
	}
	for _, k := range []int{-1, 5, 6, 63, 64, math.MaxInt, math.MinInt} {
		examples = append(examples, example{[]int{k}, nil})
	}
	for _, e := range examples {
		sameNumbers(t, "OrderOf", e.row, impl.OrderOf(e.row[0]), e.want)
	}
}

// mixExample is two rows and what they give by each kind.
type mixExample struct {
	a, b         []int
	or, and, xor []int
}

func mixExamples() []mixExample {
	return []mixExample{
		{[]int{-3}, []int{5}, []int{-15}, []int{-15}, []int{-15}},
		{[]int{2, 3}, []int{5, 7}, []int{10, 50}, []int{39, 21}, []int{31, 29}},
		{[]int{1, 2, 0, 1}, []int{3, 0, 1, 0}, []int{3, 6, 1, 6}, []int{15, 0, 1, 0}, []int{3, 7, 1, 5}},
		{[]int{1, -1, 1, -1}, []int{1, 1, -1, -1}, []int{1, -1, -1, 1}, []int{1, -1, -1, 1}, repeated(0, 4)},
		{repeated(0, 8), repeated(1000, 8), repeated(0, 8), repeated(0, 8), repeated(0, 8)},
		{[]int{0, 0, 0, 0, 0, 1, 0, 0}, []int{0, 0, 0, 1, 0, 0, 0, 0}, []int{0, 0, 0, 0, 0, 0, 0, 1}, []int{0, 1, 0, 0, 0, 0, 0, 0}, []int{0, 0, 0, 0, 0, 0, 1, 0}},
	}
}

func TestMixOf(t *testing.T) {
	for _, e := range mixExamples() {
		input := append(slices.Clone(e.a), e.b...)
		sameNumbers(t, "MixOf by or", input, impl.MixOf(e.a, e.b, "or"), e.or)
		sameNumbers(t, "MixOf by and", input, impl.MixOf(e.a, e.b, "and"), e.and)
		sameNumbers(t, "MixOf by xor", input, impl.MixOf(e.a, e.b, "xor"), e.xor)
	}
	all := repeated(1000, 16)
	sameNumbers(t, "MixOf by xor", all, impl.MixOf(all, all, "xor"), repeated(16_000_000, 16))
}

// mixPairs returns pairs of rows of as many numbers, from those whose mixed
// rows are rows up to the limits.
func mixPairs() [][2][]int {
	var pairs [][2][]int
	for _, length := range []int{1, 2, 4, 8, 16} {
		rows := [][]int{repeated(0, length), repeated(1, length), repeated(-2, length)}
		for _, limit := range []int{1, 3, 20, 1000} {
			rows = append(rows, mixedRows(length, limit, 6)...)
		}
		for i := range length {
			row := repeated(0, length)
			row[i] = -1000
			rows = append(rows, row)
		}
		for _, a := range rows {
			for _, b := range rows {
				pairs = append(pairs, [2][]int{a, b})
			}
		}
	}
	return pairs
}

// indexOf returns the index of two by a kind, digit after digit.
func indexOf(x int, y int, kind string) int {
	index := 0
	for digit := 1; digit <= 8; digit *= 2 {
		ones := (x/digit)%2 + (y/digit)%2
		if kind == "or" && ones > 0 || kind == "and" && ones == 2 || kind == "xor" && ones == 1 {
			index += digit
		}
	}
	return index
}

func TestMixOfByDigits(t *testing.T) {
	for _, pair := range mixPairs() {
		a, b := pair[0], pair[1]
		for _, kind := range mixKinds() {
			want := make([]int, len(a))
			for x := range a {
				for y := range b {
					want[indexOf(x, y, kind)] += a[x] * b[y]
				}
			}
			sameNumbers(t, "MixOf by "+kind, append(slices.Clone(a), b...), impl.MixOf(a, b, kind), want)
		}
	}
}

func TestOtherArgumentsAreNotMixed(t *testing.T) {
	row := []int{1, 2, 3, 4}
	for _, kind := range []string{"", "o", "OR", "Xor", "or ", " or", "nor", "xorand", "and\x00", "not"} {
		sameNumbers(t, "MixOf by "+kind, row, impl.MixOf(row, row, kind), nil)
	}
	others := append(wrongRows(), nil, []int{1}, []int{1, 2}, []int{1, 2, 3}, repeated(1, 5), repeated(1, 8), repeated(1, 16))
	for _, other := range others {
		for _, kind := range mixKinds() {
			sameNumbers(t, "MixOf of a row and others by "+kind, other, impl.MixOf(row, other, kind), nil)
			sameNumbers(t, "MixOf of others and a row by "+kind, other, impl.MixOf(other, row, kind), nil)
		}
	}
}

// TestMixedRowsStay checks that neither of two arguments is changed, nor
// through the result.
func TestMixedRowsStay(t *testing.T) {
	for _, kind := range mixKinds() {
		a, b := []int{1, 2, 3, 4, 77}, []int{5, 6, 7, 8, 88}
		mixed := impl.MixOf(a[:4], b[:4], kind)
		for i := range mixed[:cap(mixed)] {
			mixed[:cap(mixed)][i] = 999
		}
		sameNumbers(t, "the first row of MixOf by "+kind, a, a, []int{1, 2, 3, 4, 77})
		sameNumbers(t, "the second row of MixOf by "+kind, b, b, []int{5, 6, 7, 8, 88})
	}
}

func TestEnergyOf(t *testing.T) {
	examples := []struct {
		row  []int
		want int
	}{
		{nil, 0},
		{[]int{0}, 0},
		{[]int{-1}, 1},
		{[]int{3, -4}, 25},
		{[]int{1, 2, 3}, 14},
		{repeated(0, 16), 0},
		{repeated(-1, 15), 15},
		{append(repeated(0, 15), -5), 25},
		{repeated(-1000, 16), 16_000_000},
	}
	for _, e := range examples {
		sameNumber(t, "EnergyOf", e.row, impl.EnergyOf(e.row), e.want)
	}
	for _, row := range wrongRows() {
		sameNumber(t, "EnergyOf", row, impl.EnergyOf(row), -1)
	}
}

func TestIsBent(t *testing.T) {
	for _, row := range [][]int{
		{1}, {-1},
		{1, 1, 1, -1}, {-1, 1, 1, 1}, {-1, -1, 1, -1},
		{1, 1, 1, 1, 1, -1, 1, -1, 1, 1, -1, -1, 1, -1, -1, 1},
	} {
		if !impl.IsBent(row) {
			t.Errorf("IsBent(%v) = false", row)
		}
	}
	others := append(wrongRows(), nil,
		[]int{0}, []int{2}, []int{-2}, []int{1000},
		[]int{1, 1}, []int{1, -1}, []int{1, 0}, []int{0, 1},
		[]int{1, 1, 1}, []int{1, 1, -1, -1}, []int{1, 1, 1, 0}, []int{2, 2, 2, -2}, []int{0, 0, 0, 0},
		[]int{4, 0, 0, 0}, []int{0, 0, 0, 1}, []int{3, -1, -1, -1},
		repeated(1, 16), append([]int{1}, repeated(0, 15)...))
	for _, row := range others {
		if impl.IsBent(row) {
			t.Errorf("IsBent(%v) = true", row)
		}
	}
}

// TestAllBentRows holds IsBent against the sums, and against how many bent
// rows there are known to be.
func TestAllBentRows(t *testing.T) {
	for count, want := range map[int]int{1: 2, 2: 0, 4: 8, 8: 0, 16: 896} {
		bent := 0
		for _, row := range signRows(count) {
			if impl.IsBent(row) {
				bent++
			}
		}
		sameNumber(t, "rows for which IsBent holds, of numbers", []int{count}, bent, want)
	}
}
