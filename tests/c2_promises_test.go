package tests

import (
	"slices"
	"testing"

	"loop.example/wholewaves/impl"
)

// timesEach returns each number times a factor.
func timesEach(row []int, factor int) []int {
	result := make([]int, len(row))
	for i, number := range row {
		result[i] = factor * number
	}
	return result
}

// productsOf returns the products of the numbers at the same indices.
func productsOf(a []int, b []int) []int {
	products := make([]int, min(len(a), len(b)))
	for i := range products {
		products[i] = a[i] * b[i]
	}
	return products
}

// allLengthsChecked fails unless there are all lengths of a row of indices.
func allLengthsChecked(t *testing.T, name string, lengths map[int]bool) {
	t.Helper()
	for _, length := range []int{1, 2, 4, 8, 16} {
		if !lengths[length] {
			t.Errorf("%s: no row of %d numbers was checked", name, length)
		}
	}
}

func TestPromise11SignsTwiceAreAsManyTimesTheRow(t *testing.T) {
	lengths := map[int]bool{}
	for _, row := range binaryRows() {
		sums := impl.SignsOf(row)
		if impl.ValidRow(sums) {
			sameNumbers(t, "SignsOf SignsOf", row, impl.SignsOf(sums), timesEach(row, len(row)))
			sameNumber(t, "EnergyOf SignsOf", row, impl.EnergyOf(sums), len(row)*impl.EnergyOf(row))
			lengths[len(row)] = true
		}
	}
	allLengthsChecked(t, "SignsOf SignsOf", lengths)
}

func TestPromise12SignsAreGivenAgain(t *testing.T) {
	lengths := map[int]bool{}
	for _, row := range append(binaryRows(), rowsOfSigns()...) {
		if numbers, ok := impl.UnsignsOf(row); ok {
			sameNumbers(t, "SignsOf UnsignsOf", row, impl.SignsOf(numbers), row)
			lengths[len(row)] = true
		}
	}
	allLengthsChecked(t, "SignsOf UnsignsOf", lengths)
	for _, row := range binaryRows() {
		sums := impl.SignsOf(row)
		if !impl.ValidRow(sums) {
			continue
		}
		numbers, ok := impl.UnsignsOf(sums)
		sameNumbers(t, "UnsignsOf SignsOf", row, numbers, row)
		if !ok {
			t.Errorf("UnsignsOf(%v) is false", sums)
		}
	}
}

// rowsOfSigns returns rows that are sums with signs of small numbers.
func rowsOfSigns() [][]int {
	var rows [][]int
	for _, length := range []int{1, 2, 4, 8, 16} {
		for _, row := range mixedRows(length, 62, 50) {
			rows = append(rows, impl.SignsOf(row))
		}
	}
	return rows
}

func TestPromise13NoTwoIndicesChangeAsOften(t *testing.T) {
	for k := range impl.MaxBits + 1 {
		order := impl.OrderOf(k)
		seen := map[int]bool{}
		for y := range 1 << k {
			changes := impl.ChangesIn(k, y)
			if changes < 0 || changes >= 1<<k || seen[changes] {
				t.Fatalf("ChangesIn(%d, %d) = %d", k, y, changes)
			}
			seen[changes] = true
			if len(order) <= changes || order[changes] != y {
				t.Errorf("OrderOf(%d) = %v, but ChangesIn %d is %d", k, order, y, changes)
			}
		}
	}
}

// TestChangesAreThoseOfSigns holds ChangesIn against SignsOf rows of a single
// 1, from whose numbers at y the signs are to be seen.
func TestChangesAreThoseOfSigns(t *testing.T) {
	for k := range impl.MaxBits + 1 {
		for y := range 1 << k {
			want := 0
			for x := range 1<<k - 1 {
				here, next := repeated(0, 1<<k), repeated(0, 1<<k)
				here[x], next[x+1] = 1, 1
				if impl.SignsOf(here)[y] != impl.SignsOf(next)[y] {
					want++
				}
			}
			sameNumber(t, "ChangesIn", []int{k, y}, impl.ChangesIn(k, y), want)
		}
	}
}

func TestPromise14OrdersHaveAllIndices(t *testing.T) {
	for k := range impl.MaxBits + 1 {
		order := impl.OrderOf(k)
		for n, y := range order {
			sameNumber(t, "ChangesIn OrderOf", []int{k, n}, impl.ChangesIn(k, y), n)
		}
		slices.Sort(order)
		indices := make([]int, 1<<k)
		for i := range indices {
			indices[i] = i
		}
		sameNumbers(t, "sorted OrderOf", []int{k}, order, indices)
	}
}

func TestPromise15MixedRowsHaveProductsOfTransforms(t *testing.T) {
	transforms := map[string]transform{"xor": impl.SignsOf, "or": impl.BelowOf}
	for kind, transformed := range transforms {
		lengths := map[int]bool{}
		for _, pair := range mixPairs() {
			a, b := pair[0], pair[1]
			mixed := impl.MixOf(a, b, kind)
			if impl.ValidRow(mixed) && len(mixed) > 0 {
				want := productsOf(transformed(a), transformed(b))
				sameNumbers(t, "the transform of MixOf by "+kind, append(slices.Clone(a), b...), transformed(mixed), want)
				lengths[len(a)] = lengths[len(a)] || impl.EnergyOf(mixed) > 0
			}
		}
		allLengthsChecked(t, "MixOf by "+kind, lengths)
	}
}

func TestPromise15MixedRowsAreTheSameBothWays(t *testing.T) {
	for _, pair := range mixPairs() {
		a, b := pair[0], pair[1]
		for _, kind := range mixKinds() {
			mixed := impl.MixOf(a, b, kind)
			if len(mixed) != len(a) {
				t.Fatalf("MixOf(%v, %v, %s) = %v", a, b, kind, mixed)
			}
			sameNumbers(t, "MixOf the other way by "+kind, append(slices.Clone(a), b...), impl.MixOf(b, a, kind), mixed)
		}
	}
}

func TestPromise16EnergiesAreThoseOfParts(t *testing.T) {
	for _, row := range sampleRows() {
		energy := impl.EnergyOf(row)
		noughts := !slices.ContainsFunc(row, func(number int) bool { return number != 0 })
		if energy < 0 || (energy == 0) != noughts {
			t.Errorf("EnergyOf(%v) = %d", row, energy)
		}
		if len(row) > 0 {
			sameNumber(t, "EnergyOf", row, energy, impl.EnergyOf(row[:1])+impl.EnergyOf(row[1:]))
		}
	}
}

func TestPromise17BentRowsHaveEvenNumbersOfDigits(t *testing.T) {
	lengths := map[int]bool{}
	for _, count := range []int{1, 2, 4, 8, 16} {
		for _, row := range signRows(count) {
			if !impl.IsBent(row) {
				continue
			}
			for _, sum := range impl.SignsOf(row) {
				sameNumber(t, "a number of SignsOf, by itself,", row, sum*sum, count)
			}
			lengths[count] = true
		}
	}
	for _, count := range []int{1, 2, 4, 8, 16} {
		if even := count == 1 || count == 4 || count == 16; lengths[count] != even {
			t.Errorf("there are bent rows of %d numbers: %t", count, lengths[count])
		}
	}
}
