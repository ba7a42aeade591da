package tests

import (
	"slices"
	"testing"

	"loop.example/wholewaves/impl"
)

// restProducts returns the rests of the products at the same indices.
func restProducts(a []int, b []int) []int {
	products := productsOf(a, b)
	for i := range products {
		products[i] %= 97
	}
	return products
}

func TestPromise18OrdersDivide(t *testing.T) {
	for x := 1; x <= 96; x++ {
		order := impl.OrderBy(x)
		if order < 1 || 96%order != 0 {
			t.Fatalf("OrderBy(%d) = %d", x, order)
		}
		for n, power := range powersOf(x, 200) {
			if (power == 1) != (n%order == 0) {
				t.Errorf("OrderBy(%d) = %d, but it is %d to the power %d", x, order, power, n)
			}
		}
	}
}

func TestPromise19RootsHaveTheirOrder(t *testing.T) {
	for _, n := range restLengths() {
		sameNumber(t, "OrderBy RootOf", []int{n}, impl.OrderBy(impl.RootOf(n)), n)
	}
}

func TestPromise20RestsMayBeNoughts(t *testing.T) {
	for length := range 200 {
		want := slices.Contains(restLengths(), length)
		if got := impl.ValidRests(repeated(0, length)); got != want {
			t.Errorf("ValidRests of %d noughts is %t", length, got)
		}
		if got := impl.ValidRests(repeated(96, length)); got != want {
			t.Errorf("ValidRests of %d times 96 is %t", length, got)
		}
	}
}

func TestPromise21WavesAreTakenBack(t *testing.T) {
	for _, row := range sampleRests() {
		wave := impl.WaveOf(row)
		if len(wave) != len(row) {
			t.Fatalf("WaveOf(%v) = %v", row, wave)
		}
		sameNumbers(t, "UnwaveOf WaveOf", row, impl.UnwaveOf(wave), row)
		sameNumber(t, "the first one of WaveOf", row, wave[0], totalOf(row)%97)
		powers := powersOf(impl.RootOf(len(row)), len(row))
		sameNumbers(t, "WaveOf TurnOf by one", row, impl.WaveOf(impl.TurnOf(row, 1)), restProducts(wave, powers))
	}
}

func TestPromise22RestsAreGivenAgain(t *testing.T) {
	for _, row := range sampleRests() {
		sameNumbers(t, "WaveOf UnwaveOf", row, impl.WaveOf(impl.UnwaveOf(row)), row)
	}
}

func TestPromise23ProductsRoundARowAreProductsOfWaves(t *testing.T) {
	for _, pair := range restPairs() {
		a, b := pair[0], pair[1]
		both := slices.Concat(a, b)
		ring := impl.RingOf(a, b)
		if len(ring) != len(a) {
			t.Fatalf("RingOf(%v, %v) = %v", a, b, ring)
		}
		sameNumbers(t, "WaveOf RingOf", both, impl.WaveOf(ring), restProducts(impl.WaveOf(a), impl.WaveOf(b)))
		sameNumbers(t, "RingOf the other way", both, impl.RingOf(b, a), ring)
	}
}

func TestPromise24TurnsAddUp(t *testing.T) {
	for _, row := range sampleRests() {
		sameNumbers(t, "TurnOf by 0", row, impl.TurnOf(row, 0), row)
		for k := range impl.MaxRow {
			turned, further := impl.TurnOf(row, k), impl.TurnOf(row, k+1)
			sameNumbers(t, "TurnOf by one more", append(slices.Clone(row), k), further, impl.TurnOf(turned, 1))
			sameNumber(t, "how many rests of TurnOf are other than 0", append(slices.Clone(row), k), nonzeroOf(turned), nonzeroOf(row))
		}
		before, _ := impl.SpreadOf(row)
		after, _ := impl.SpreadOf(impl.TurnOf(row, impl.MaxRow))
		sameNumber(t, "SpreadOf TurnOf", row, after, before)
	}
}

func TestPromise25WhatIsNarrowIsSpreadWidely(t *testing.T) {
	for _, row := range sampleRests() {
		rests, others := impl.SpreadOf(row)
		if noughts := nonzeroOf(row) == 0; noughts && (rests != 0 || others != 0) || !noughts && (rests < 1 || rests*others < len(row)) {
			t.Errorf("SpreadOf(%v) = %d, %d", row, rests, others)
		}
	}
}

// TestCombsAreSpreadLeast checks that the least product of SpreadOf is met.
func TestCombsAreSpreadLeast(t *testing.T) {
	for _, length := range restLengths() {
		for _, row := range combs(length) {
			rests, others := impl.SpreadOf(row)
			sameNumber(t, "the product of SpreadOf", row, rests*others, length)
		}
	}
}

func TestPromise26SumsOfSquaresAreKnown(t *testing.T) {
	sameNumber(t, "SquareSum", []int{0}, impl.SquareSum(0), 16)
	powers := powersOf(impl.RootOf(16), 64)
	for k := 1; k < 16; k += 2 {
		sum := impl.SquareSum(k)
		if sum < 0 || sum > 96 {
			t.Errorf("SquareSum(%d) = %d", k, sum)
		}
		sameNumber(t, "SquareSum, by itself,", []int{k}, sum*sum%97, 32*powers[4*k]%97)
	}
}
