package tests

import (
	"maps"
	"slices"
	"testing"

	"loop.example/wholewaves/impl"
)

// rowTransforms are the functions that take any row and give a number for a
// number.
func rowTransforms() map[string]transform {
	return map[string]transform{
		"SumsOf":            impl.SumsOf,
		"StepsOf":           impl.StepsOf,
		"EdgeOf":            impl.EdgeOf,
		"FromEdge":          impl.FromEdge,
		"DivisorSums":       impl.DivisorSums,
		"UndivisorSums":     impl.UndivisorSums,
		"DropSmall of none": func(row []int) []int { return impl.DropSmall(row, 0) },
		"DropSmall of some": func(row []int) []int { return impl.DropSmall(row, 10) },
		"SelfOf":            impl.SelfOf,
		"BoxSums of one":    func(row []int) []int { return impl.BoxSums(row, 1) },
		"MiddlesOf one":     func(row []int) []int { return impl.MiddlesOf(row, 1) },
	}
}

// otherTransforms are those that give more or fewer numbers. A function of two
// rows is given the same one twice, or a divisor.
func otherTransforms() map[string]transform {
	return map[string]transform{
		"TimesOf":          func(row []int) []int { return impl.TimesOf(row, row) },
		"BoxSums of three": func(row []int) []int { return impl.BoxSums(row, 3) },
		"MiddlesOf three":  func(row []int) []int { return impl.MiddlesOf(row, 3) },
		"PartOf": func(row []int) []int {
			parts, _, _ := impl.PartOf(row, []int{2, 1})
			return parts
		},
		"what PartOf leaves": func(row []int) []int {
			_, left, _ := impl.PartOf(row, []int{2, 1})
			return left
		},
	}
}

// evenTransforms are those that take a row of an even number of numbers.
func evenTransforms() map[string]transform {
	return map[string]transform{
		"HalveOf":   impl.HalveOf,
		"UnhalveOf": impl.UnhalveOf,
		"LeapOf":    impl.LeapOf,
		"UnleapOf":  impl.UnleapOf,
	}
}

// binaryTransforms are those that take a row of 1, 2, 4, 8 or 16 numbers. A
// function of two rows is given the same one twice.
func binaryTransforms() map[string]transform {
	functions := map[string]transform{
		"BelowOf":    impl.BelowOf,
		"UnbelowOf":  impl.UnbelowOf,
		"HalveAll":   impl.HalveAll,
		"UnhalveAll": impl.UnhalveAll,
		"SignsOf":    impl.SignsOf,
		"UnsignsOf": func(row []int) []int {
			numbers, _ := impl.UnsignsOf(row)
			return numbers
		},
	}
	for _, kind := range mixKinds() {
		functions["MixOf by "+kind] = func(row []int) []int { return impl.MixOf(row, row, kind) }
	}
	return functions
}

// restTransforms are those that take rests. A function of two rows is given
// the same one twice.
func restTransforms() map[string]transform {
	return map[string]transform{
		"WaveOf":          impl.WaveOf,
		"UnwaveOf":        impl.UnwaveOf,
		"RingOf":          func(row []int) []int { return impl.RingOf(row, row) },
		"TurnOf by 0":     func(row []int) []int { return impl.TurnOf(row, 0) },
		"TurnOf by a few": func(row []int) []int { return impl.TurnOf(row, 5) },
	}
}

// allRowTransforms are those that take a row of some length.
func allRowTransforms() map[string]transform {
	functions := rowTransforms()
	maps.Copy(functions, otherTransforms())
	maps.Copy(functions, evenTransforms())
	maps.Copy(functions, binaryTransforms())
	return functions
}

func TestNoRowGivesNothing(t *testing.T) {
	for _, row := range wrongRows() {
		for name, function := range allRowTransforms() {
			sameNumbers(t, name, row, function(row), nil)
		}
	}
	for _, row := range wrongRests() {
		for name, function := range restTransforms() {
			sameNumbers(t, name, row, function(row), nil)
		}
	}
}

func TestOtherLengthsGiveNothing(t *testing.T) {
	for length := range 40 {
		for name, function := range binaryTransforms() {
			row := repeated(1, length)
			if got := function(row); (len(got) != 0) != binaryLength(length) {
				t.Errorf("%s of %d numbers = %v", name, length, got)
			}
		}
		for name, function := range evenTransforms() {
			row := repeated(1, length)
			even := length%2 == 0 && length > 0 && length <= 16
			if got := function(row); (len(got) != 0) != even {
				t.Errorf("%s of %d numbers = %v", name, length, got)
			}
		}
	}
	for name, function := range binaryTransforms() {
		sameNumbers(t, name, nil, function(nil), nil)
	}
}

// TestResultsAreAsLong checks that each transform gives a number for a number.
func TestResultsAreAsLong(t *testing.T) {
	for _, row := range sampleRows() {
		for name, function := range rowTransforms() {
			if got := function(row); len(got) != len(row) {
				t.Errorf("%s(%v) = %v", name, row, got)
			}
		}
	}
	for _, row := range evenRows() {
		for name, function := range evenTransforms() {
			if got := function(row); len(got) != len(row) {
				t.Errorf("%s(%v) = %v", name, row, got)
			}
		}
	}
	for _, row := range sampleRests() {
		for name, function := range restTransforms() {
			if got := function(row); len(got) != len(row) {
				t.Errorf("%s(%v) = %v", name, row, got)
			}
		}
	}
}

// TestArgumentsStay checks that no argument is changed, neither by the call
// nor through the result and its spare capacity.
func TestArgumentsStay(t *testing.T) {
	// UnsignsOf is whole for multiples of 16.
	whole := []int{16, 0, 96, -48, 80, 112, 64, 144, 32, 176, 208, 192, 640, 656, 672, 688}
	for name, function := range allRowTransforms() {
		argumentStays(t, name, function, whole)
	}
	rests := []int{16, 0, 96, 48, 80, 12, 64, 44, 32, 76, 8, 92, 40, 56, 72, 88}
	for name, function := range restTransforms() {
		argumentStays(t, name, function, rests)
	}
}

func argumentStays(t *testing.T, name string, function transform, whole []int) {
	t.Helper()
	for _, length := range []int{0, 1, 4, 8, 16} {
		before := slices.Clone(whole)
		got := function(whole[:length])
		for i := range got[:cap(got)] {
			got[:cap(got)][i] = 999
		}
		sameNumbers(t, name+" with its argument", before[:length], whole, before)
	}
}

// TestCallsKeepNothing checks that a call does not change what another one
// returns, or returned.
func TestCallsKeepNothing(t *testing.T) {
	functions := allRowTransforms()
	maps.Copy(functions, restTransforms())
	for name, function := range functions {
		row := []int{12, 4, 16, 8}
		first := function(row)
		if len(first) == 0 {
			t.Fatalf("%s(%v) has no numbers", name, row)
		}
		want := slices.Clone(first)
		function([]int{20, 20, 20, 20})
		sameNumbers(t, name, row, first, want)
		first[0] = 999
		sameNumbers(t, name, row, function(row), want)
	}
}
