package tests

import (
	"math"
	"slices"
	"testing"

	"loop.example/wholewaves/impl"
)

// leastRoots are the least numbers of each order by 97, as they are known.
func leastRoots() map[int]int {
	return map[int]int{1: 1, 2: 96, 3: 35, 4: 22, 6: 36, 8: 33, 12: 6, 16: 8, 24: 4, 32: 19, 48: 2, 96: 5}
}

// restLengths returns how many rests there may be: the divisors of 96.
func restLengths() []int {
	return []int{1, 2, 3, 4, 6, 8, 12, 16, 24, 32, 48, 96}
}

// powersOf returns the powers of x by 97, from that to 0 on.
func powersOf(x int, count int) []int {
	powers := make([]int, count)
	for i, power := 0, 1; i < count; i++ {
		powers[i] = power
		power = power * x % 97
	}
	return powers
}

// sampleRests returns rows of every number of rests: one rest of each size,
// two of them, noughts alone, the same ones, single ones among noughts, every
// few ones among noughts, and mixed ones.
func sampleRests() [][]int {
	var rows [][]int
	for x := range 97 {
		rows = append(rows, []int{x}, []int{x, 96 - x}, []int{x, x * x % 97})
	}
	for _, length := range restLengths() {
		for _, number := range []int{0, 1, 50, 96} {
			rows = append(rows, repeated(number, length))
		}
		for _, place := range []int{0, 1, length / 2, length - 1} {
			row := repeated(0, length)
			row[place%length] = 96
			rows = append(rows, row)
		}
		rows = append(rows, combs(length)...)
		rows = append(rows, mixedRests(length, 8)...)
	}
	return rows
}

// combs returns rows of noughts with another rest at every few places, of
// which there are as many as their waves allow.
func combs(length int) [][]int {
	var rows [][]int
	for gap := 1; gap <= length; gap++ {
		if length%gap != 0 {
			continue
		}
		row := repeated(0, length)
		for i := 0; i < length; i += gap {
			row[i] = 5
		}
		rows = append(rows, row)
	}
	return rows
}

// mixedRests returns count rows of rests, the same ones at each call.
func mixedRests(length int, count int) [][]int {
	rows := mixedRows(length, 48, count)
	for _, row := range rows {
		for i := range row {
			row[i] += 48
		}
	}
	return rows
}

// wrongRests returns numbers that are no rests.
func wrongRests() [][]int {
	rows := [][]int{
		nil, {}, {97}, {-1}, {98}, {math.MaxInt}, {math.MinInt}, {-97}, {97 * 97},
		{0, 97}, {97, 0}, {-1, 0}, {1, 2, -1}, {1, 2, 3, 1000},
		append(repeated(0, 95), 97), append(repeated(0, 95), -1), append([]int{97}, repeated(0, 95)...),
		repeated(0, 192), repeated(1, 97),
	}
	for length := range 200 {
		if !slices.Contains(restLengths(), length) {
			rows = append(rows, repeated(0, length))
		}
	}
	return rows
}

// waveSums returns the wave by its definition.
func waveSums(row []int) []int {
	count := len(row)
	powers := powersOf(leastRoots()[count], (count-1)*(count-1)+1)
	sums := make([]int, count)
	for k := range sums {
		for i, number := range row {
			sums[k] += number * powers[i*k]
		}
		sums[k] %= 97
	}
	return sums
}

func nonzeroOf(row []int) int {
	count := 0
	for _, number := range row {
		if number != 0 {
			count++
		}
	}
	return count
}

func TestPrime(t *testing.T) {
	if impl.Prime != 97 {
		t.Errorf("Prime = %d", impl.Prime)
	}
}

func TestOrderBy(t *testing.T) {
	for x := 1; x <= 96; x++ {
		want := 1 + slices.Index(powersOf(x, 97)[1:], 1)
		sameNumber(t, "OrderBy", []int{x}, impl.OrderBy(x), want)
	}
	for _, e := range [][2]int{{1, 1}, {2, 48}, {5, 96}, {8, 16}, {22, 4}, {35, 3}, {36, 6}, {61, 3}, {75, 4}, {95, 48}, {96, 2}} {
		sameNumber(t, "OrderBy", e[:1], impl.OrderBy(e[0]), e[1])
	}
	for _, x := range []int{0, -1, -96, 97, 98, 194, 9409, math.MaxInt, math.MinInt} {
		sameNumber(t, "OrderBy", []int{x}, impl.OrderBy(x), -1)
	}
}

// TestHowManyHaveAnOrder holds OrderBy against how many numbers of each order
// there are known to be: as many as have no divisor in common with it.
func TestHowManyHaveAnOrder(t *testing.T) {
	counts := map[int]int{}
	for x := 1; x <= 96; x++ {
		counts[impl.OrderBy(x)]++
	}
	for order, want := range map[int]int{1: 1, 2: 1, 3: 2, 4: 2, 6: 2, 8: 4, 12: 4, 16: 8, 24: 8, 32: 16, 48: 16, 96: 32} {
		sameNumber(t, "how many have the order", []int{order}, counts[order], want)
	}
}

func TestRootOf(t *testing.T) {
	for n := -200; n <= 200; n++ {
		want, ok := leastRoots()[n]
		if !ok {
			want = -1
		}
		sameNumber(t, "RootOf", []int{n}, impl.RootOf(n), want)
	}
	for _, n := range []int{9216, math.MaxInt, math.MinInt} {
		sameNumber(t, "RootOf", []int{n}, impl.RootOf(n), -1)
	}
}

func TestValidRests(t *testing.T) {
	for _, row := range sampleRests() {
		if !impl.ValidRests(row) {
			t.Errorf("ValidRests(%v) = false", row)
		}
	}
	for _, row := range wrongRests() {
		if impl.ValidRests(row) {
			t.Errorf("ValidRests(%v) = true", row)
		}
	}
}

func TestWaveOf(t *testing.T) {
	checkExamples(t, "WaveOf", impl.WaveOf, []example{
		{[]int{0}, []int{0}},
		{[]int{7}, []int{7}},
		{[]int{96}, []int{96}},
		{[]int{1, 2}, []int{3, 96}},
		{[]int{96, 96}, []int{95, 0}},
		{[]int{1, 2, 3}, []int{6, 60, 34}},
		{[]int{1, 2, 3, 4}, []int{10, 51, 95, 42}},
		{[]int{1, 0, 0, 0}, []int{1, 1, 1, 1}},
		{[]int{0, 1, 0, 0}, []int{1, 22, 96, 75}},
		{[]int{96, 0, 50, 3}, []int{52, 77, 46, 15}},
		{[]int{5, 5, 5, 5, 5, 5}, []int{30, 0, 0, 0, 0, 0}},
		{[]int{1, 2, 3, 4, 5, 6, 7, 8}, []int{36, 73, 5, 55, 93, 34, 84, 16}},
		{append([]int{0, 1}, repeated(0, 10)...), []int{1, 6, 36, 22, 35, 16, 96, 91, 61, 75, 62, 81}},
		{append([]int{0, 1}, repeated(0, 94)...), powersOf(5, 96)},
		{repeated(0, 96), repeated(0, 96)},
		{repeated(96, 96), append([]int{1}, repeated(0, 95)...)},
	})
	for _, row := range sampleRests() {
		sameNumbers(t, "WaveOf", row, impl.WaveOf(row), waveSums(row))
	}
}

func TestUnwaveOf(t *testing.T) {
	checkExamples(t, "UnwaveOf", impl.UnwaveOf, []example{
		{[]int{0}, []int{0}},
		{[]int{7}, []int{7}},
		{[]int{96}, []int{96}},
		{[]int{3, 96}, []int{1, 2}},
		{[]int{1, 0}, []int{49, 49}},
		{[]int{6, 60, 34}, []int{1, 2, 3}},
		{[]int{10, 51, 95, 42}, []int{1, 2, 3, 4}},
		{[]int{1, 22, 96, 75}, []int{0, 1, 0, 0}},
		{[]int{30, 0, 0, 0, 0, 0}, repeated(5, 6)},
		{powersOf(5, 96), append([]int{0, 1}, repeated(0, 94)...)},
		{append([]int{1}, repeated(0, 95)...), repeated(96, 96)},
		{repeated(0, 96), repeated(0, 96)},
	})
	for _, row := range sampleRests() {
		sameNumbers(t, "UnwaveOf", waveSums(row), impl.UnwaveOf(waveSums(row)), row)
		sameNumbers(t, "the wave of UnwaveOf", row, waveSums(impl.UnwaveOf(row)), row)
	}
}

func TestRingOf(t *testing.T) {
	for _, e := range [][3][]int{
		{{0}, {96}, {0}},
		{{7}, {20}, {43}},
		{{96}, {96}, {1}},
		{{1, 2}, {3, 4}, {11, 10}},
		{{1, 2, 3}, {4, 5, 6}, {31, 31, 28}},
		{{1, 2, 3, 0}, {0, 1, 0, 2}, {4, 7, 2, 5}},
		{{96, 96, 96, 96}, {96, 96, 96, 96}, {4, 4, 4, 4}},
		{{50, 60, 70, 80, 90, 96}, {1, 0, 0, 0, 0, 96}, {87, 87, 87, 87, 91, 46}},
		{repeated(0, 96), repeated(96, 96), repeated(0, 96)},
		{repeated(96, 96), repeated(96, 96), repeated(96, 96)},
	} {
		sameNumbers(t, "RingOf", slices.Concat(e[0], e[1]), impl.RingOf(e[0], e[1]), e[2])
	}
}

// restPairs returns pairs of rows of as many rests.
func restPairs() [][2][]int {
	var pairs [][2][]int
	for _, length := range restLengths() {
		rows := append(combs(length), mixedRests(length, 4)...)
		rows = append(rows, repeated(0, length), repeated(96, length))
		for _, a := range rows {
			for _, b := range rows {
				pairs = append(pairs, [2][]int{a, b})
			}
		}
	}
	return pairs
}

func TestRingOfByDefinition(t *testing.T) {
	for _, pair := range restPairs() {
		a, b := pair[0], pair[1]
		want := make([]int, len(a))
		for i := range a {
			for j := range b {
				place := i + j
				if place >= len(a) {
					place -= len(a)
				}
				want[place] += a[i] * b[j]
			}
		}
		for i := range want {
			want[i] %= 97
		}
		sameNumbers(t, "RingOf", slices.Concat(a, b), impl.RingOf(a, b), want)
	}
}

func TestOthersHaveNoRing(t *testing.T) {
	row := []int{1, 2, 3, 4}
	others := append(wrongRests(), []int{1, 2, 3, 97}, []int{-1, 2, 3, 4}, []int{1}, []int{1, 2}, repeated(1, 3), repeated(1, 8), repeated(1, 96))
	for _, other := range others {
		sameNumbers(t, "RingOf rests and others", other, impl.RingOf(row, other), nil)
		sameNumbers(t, "RingOf others and rests", other, impl.RingOf(other, row), nil)
	}
}

// TestRowsOfARingStay checks that neither of two arguments is changed, nor
// through the result.
func TestRowsOfARingStay(t *testing.T) {
	a, b := []int{1, 2, 3, 4, 77}, []int{5, 6, 7, 8, 88}
	ring := impl.RingOf(a[:4], b[:4])
	for i := range ring[:cap(ring)] {
		ring[:cap(ring)][i] = 999
	}
	sameNumbers(t, "the first row of RingOf", a, a, []int{1, 2, 3, 4, 77})
	sameNumbers(t, "the second row of RingOf", b, b, []int{5, 6, 7, 8, 88})
}

func TestTurnOf(t *testing.T) {
	for _, e := range []struct {
		row  []int
		k    int
		want []int
	}{
		{[]int{7}, 0, []int{7}},
		{[]int{7}, 16, []int{7}},
		{[]int{1, 2}, 15, []int{2, 1}},
		{[]int{1, 2, 3}, 0, []int{1, 2, 3}},
		{[]int{1, 2, 3}, 1, []int{3, 1, 2}},
		{[]int{1, 2, 3}, 2, []int{2, 3, 1}},
		{[]int{1, 2, 3}, 3, []int{1, 2, 3}},
		{[]int{1, 2, 3}, 4, []int{3, 1, 2}},
		{[]int{1, 2, 3}, 16, []int{3, 1, 2}},
		{[]int{0, 96, 0, 0}, 2, []int{0, 0, 0, 96}},
	} {
		sameNumbers(t, "TurnOf", append(slices.Clone(e.row), e.k), impl.TurnOf(e.row, e.k), e.want)
	}
	for _, row := range sampleRests() {
		for k := range 17 {
			cut := len(row) - k%len(row)
			sameNumbers(t, "TurnOf", append(slices.Clone(row), k), impl.TurnOf(row, k), slices.Concat(row[cut:], row[:cut]))
		}
	}
}

func TestOthersAreNotTurned(t *testing.T) {
	for _, row := range [][]int{{7}, {1, 2, 3}, repeated(1, 32), repeated(1, 96)} {
		for _, k := range []int{-1, -3, 17, 32, 96, math.MaxInt, math.MinInt} {
			sameNumbers(t, "TurnOf", append(slices.Clone(row), k), impl.TurnOf(row, k), nil)
		}
	}
}

func TestSpreadOf(t *testing.T) {
	examples := []struct {
		row           []int
		rests, others int
	}{
		{[]int{0}, 0, 0},
		{[]int{96}, 1, 1},
		{[]int{0, 0}, 0, 0},
		{[]int{1, 1}, 2, 1},
		{[]int{1, 96}, 2, 1},
		{[]int{1, 2}, 2, 2},
		{[]int{1, 0, 0, 0}, 1, 4},
		{[]int{5, 5, 5, 5}, 4, 1},
		{[]int{1, 0, 1, 0}, 2, 2},
		{repeated(0, 96), 0, 0},
		{repeated(96, 96), 96, 1},
		{append([]int{96}, repeated(0, 95)...), 1, 96},
	}
	for _, e := range examples {
		rests, others := impl.SpreadOf(e.row)
		sameNumbers(t, "SpreadOf", e.row, []int{rests, others}, []int{e.rests, e.others})
	}
	for _, row := range sampleRests() {
		rests, others := impl.SpreadOf(row)
		sameNumbers(t, "SpreadOf", row, []int{rests, others}, []int{nonzeroOf(row), nonzeroOf(waveSums(row))})
	}
	for _, row := range wrongRests() {
		rests, others := impl.SpreadOf(row)
		sameNumbers(t, "SpreadOf", row, []int{rests, others}, []int{-1, -1})
	}
}

func TestSquareSum(t *testing.T) {
	for k, want := range []int{16, 92, 27, 13, 87, 92, 12, 13, 0, 92, 70, 13, 26, 92, 85, 13} {
		sameNumber(t, "SquareSum", []int{k}, impl.SquareSum(k), want)
		sum := 0
		for i := range 16 {
			sum += powersOf(8, i*i*k+1)[i*i*k]
		}
		sameNumber(t, "SquareSum", []int{k}, impl.SquareSum(k), sum%97)
	}
	for _, k := range []int{-1, -16, 16, 17, 32, 97, math.MaxInt, math.MinInt} {
		sameNumber(t, "SquareSum", []int{k}, impl.SquareSum(k), -1)
	}
}
