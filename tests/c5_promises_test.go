package tests

import (
	"slices"
	"testing"

	"loop.example/wholewaves/impl"
)

func turnedRound(row []int) []int {
	turned := slices.Clone(row)
	slices.Reverse(turned)
	return turned
}

func TestPromise34ProductsGoBothWays(t *testing.T) {
	for _, pair := range rowPairs() {
		a, b := pair[0], pair[1]
		input := slices.Concat(a, b)
		products := impl.TimesOf(a, b)
		sameNumbers(t, "TimesOf the other way", input, impl.TimesOf(b, a), products)
		sameNumber(t, "the sum of TimesOf", input, totalOf(products), totalOf(a)*totalOf(b))
	}
}

func TestPromise35PartsAndWhatIsLeftAreTheRow(t *testing.T) {
	lengths := map[int]bool{}
	for _, pair := range dividable() {
		a, b := pair[0], pair[1]
		parts, left, ok := impl.PartOf(a, b)
		if !ok || !impl.ValidRow(parts) {
			continue
		}
		sum := impl.TimesOf(parts, b)
		if len(sum) != len(a) || len(left) != len(b)-1 {
			t.Fatalf("PartOf(%v, %v) = %v, %v", a, b, parts, left)
		}
		for i := range left {
			sum[i] += left[i]
		}
		sameNumbers(t, "TimesOf PartOf and what is left", slices.Concat(a, b), sum, a)
		lengths[len(b)] = true
	}
	for length := 1; length <= 16; length++ {
		if !lengths[length] {
			t.Errorf("no part by %d numbers was checked", length)
		}
	}
}

func TestPromise36BoxesAreDifferencesOfSums(t *testing.T) {
	for _, row := range sampleRows() {
		sums := append([]int{0}, impl.SumsOf(row)...)
		for width := 1; width <= len(row); width++ {
			var want []int
			for end := width; end <= len(row); end++ {
				want = append(want, sums[end]-sums[end-width])
			}
			sameNumbers(t, "BoxSums", append(slices.Clone(row), width), impl.BoxSums(row, width), want)
		}
		if len(row) > 0 {
			sameNumbers(t, "BoxSums of all", row, impl.BoxSums(row, len(row)), []int{totalOf(row)})
		}
	}
}

func TestPromise37MiddlesAreNumbers(t *testing.T) {
	for _, row := range sampleRows() {
		for width := 1; width <= len(row); width += 2 {
			middles := impl.MiddlesOf(row, width)
			if len(middles) != len(row)-width+1 {
				t.Fatalf("MiddlesOf(%v, %d) = %v", row, width, middles)
			}
			for i, middle := range middles {
				box := row[i : i+width]
				if !slices.Contains(box, middle) || !isMiddle(middle, box) {
					t.Errorf("MiddlesOf(%v, %d) = %v", row, width, middles)
				}
			}
		}
	}
}

func TestPromise38RowsAreLikeThemselvesMost(t *testing.T) {
	for _, row := range sampleRows() {
		sums := impl.SelfOf(row)
		sameNumbers(t, "SelfOf the other way round", row, impl.SelfOf(turnedRound(row)), sums)
		if len(row) == 0 {
			continue
		}
		if len(sums) != len(row) || slices.Max(sums) != sums[0] {
			t.Fatalf("SelfOf(%v) = %v", row, sums)
		}
		all := sums[0] + 2*totalOf(sums[1:])
		sameNumber(t, "all of SelfOf", row, all, totalOf(row)*totalOf(row))
	}
}

func TestPromise39QuietRowsAreQuietTurnedRound(t *testing.T) {
	held := 0
	for count := 1; count <= 13; count++ {
		for _, row := range signRows(count) {
			if !impl.IsQuiet(row) {
				continue
			}
			held++
			if !impl.IsQuiet(turnedRound(row)) || !impl.IsQuiet(timesEach(row, -1)) {
				t.Errorf("IsQuiet(%v) does not hold of it turned", row)
			}
		}
	}
	if held != 34 {
		t.Errorf("IsQuiet holds of %d rows", held)
	}
}

func TestPromise40PairsArePairsBothWays(t *testing.T) {
	for _, pair := range append(shortPairs(), longPairs()...) {
		a, b := pair[0], pair[1]
		for _, other := range [][2][]int{
			{a, b}, {b, a},
			{turnedRound(a), b}, {a, turnedRound(b)},
			{timesEach(a, -1), b}, {a, timesEach(b, -1)},
		} {
			if !impl.ArePaired(other[0], other[1]) {
				t.Errorf("ArePaired(%v, %v) = false", other[0], other[1])
			}
		}
	}
}

func TestPromise41PairsDouble(t *testing.T) {
	for _, pair := range shortPairs() {
		a, b := pair[0], pair[1]
		for 2*len(a) <= impl.MaxRow {
			first, second, ok := impl.DoublePair(a, b)
			if !ok || len(first) != 2*len(a) || !impl.ArePaired(first, second) {
				t.Fatalf("DoublePair(%v, %v) = %v, %v, %v", a, b, first, second, ok)
			}
			a, b = first, second
		}
	}
}
