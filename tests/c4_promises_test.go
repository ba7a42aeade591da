package tests

import (
	"slices"
	"testing"

	"loop.example/wholewaves/impl"
)

// secondHalfIs fails unless the numbers have just those of want behind their
// first half.
func secondHalfIs(t *testing.T, name string, input []int, numbers []int, want []int) {
	t.Helper()
	if len(numbers) != 2*len(want) {
		t.Fatalf("%s(%v) = %v", name, input, numbers)
	}
	sameNumbers(t, "the second half of "+name, input, numbers[len(want):], want)
}

func TestPromise27HalvesArePutTogether(t *testing.T) {
	takesBack(t, "UnhalveOf HalveOf", impl.HalveOf, impl.UnhalveOf, evenRows())
	for length := 2; length <= impl.MaxRow; length += 2 {
		for _, number := range []int{-1000, -7, -1, 0, 1, 8, 1000} {
			row := repeated(number, length)
			secondHalfIs(t, "HalveOf", row, impl.HalveOf(row), repeated(0, length/2))
		}
	}
}

func TestPromise28WhatIsPutTogetherIsHalved(t *testing.T) {
	takesBack(t, "HalveOf UnhalveOf", impl.UnhalveOf, impl.HalveOf, evenRows())
}

func TestPromise29AllHalvesArePutTogether(t *testing.T) {
	takesBack(t, "UnhalveAll HalveAll", impl.HalveAll, impl.UnhalveAll, binaryRows())
	for _, row := range binaryRows() {
		halves := impl.HalveAll(row)
		if len(halves) != len(row) {
			t.Fatalf("HalveAll(%v) = %v", row, halves)
		}
		// Each halving takes at most half of one off the mean.
		lost := totalOf(row) - len(row)*halves[0]
		if halves[0] < slices.Min(row) || lost < 0 || 2*lost > len(row)*halvings(len(row)) {
			t.Errorf("HalveAll(%v) begins with %d", row, halves[0])
		}
	}
}

// halvings returns how often as many numbers can be halved.
func halvings(count int) int {
	times := 0
	for ; count > 1; count /= 2 {
		times++
	}
	return times
}

func TestPromise30WhatIsPutTogetherIsHalvedAgain(t *testing.T) {
	takesBack(t, "HalveAll UnhalveAll", impl.UnhalveAll, impl.HalveAll, binaryRows())
}

func TestPromise31LeapsAreTakenBack(t *testing.T) {
	takesBack(t, "UnleapOf LeapOf", impl.LeapOf, impl.UnleapOf, append(evenRows(), equalSteps()...))
	for _, row := range equalSteps() {
		details := repeated(0, len(row)/2)
		// The last number has none behind it, so its detail is the step.
		details[len(details)-1] = row[1] - row[0]
		secondHalfIs(t, "LeapOf", row, impl.LeapOf(row), details)
	}
}

func TestPromise32NumbersLeapAgain(t *testing.T) {
	takesBack(t, "LeapOf UnleapOf", impl.UnleapOf, impl.LeapOf, evenRows())
}

func TestPromise33DroppedOnceIsDropped(t *testing.T) {
	for _, row := range sampleRows() {
		sameNumbers(t, "DropSmall with an edge of 0", row, impl.DropSmall(row, 0), row)
		for _, edge := range []int{0, 1, 2, 3, 62, 63, 1000} {
			input := append(slices.Clone(row), edge)
			dropped := impl.DropSmall(row, edge)
			if len(dropped) != len(row) || impl.EnergyOf(dropped) > impl.EnergyOf(row) {
				t.Errorf("DropSmall(%v) = %v", input, dropped)
			}
			sameNumbers(t, "DropSmall again", input, impl.DropSmall(dropped, edge), dropped)
		}
	}
}
