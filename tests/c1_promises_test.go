package tests

import (
	"slices"
	"testing"

	"loop.example/wholewaves/impl"
)

// takesBack checks that back of there is the row, for all rows of which there
// makes rows, and that these are not too few to tell.
func takesBack(t *testing.T, name string, there transform, back transform, rows [][]int) {
	t.Helper()
	lengths := map[int]bool{}
	for _, row := range rows {
		between := there(row)
		if impl.ValidRow(between) {
			sameNumbers(t, name, row, back(between), row)
			lengths[len(row)] = true
		}
	}
	for _, row := range rows {
		if !lengths[len(row)] {
			t.Fatalf("%s: no row of %d numbers was checked", name, len(row))
		}
	}
}

func binaryRows() [][]int {
	return slices.DeleteFunc(sampleRows(), func(row []int) bool { return !binaryLength(len(row)) })
}

func TestPromise1RowsCanBeCut(t *testing.T) {
	for _, row := range sampleRows() {
		for length := len(row); length >= 0; length-- {
			if !impl.ValidRow(row[:length]) {
				t.Errorf("ValidRow(%v) = false", row[:length])
			}
		}
	}
}

func TestPromise2SumsAreTakenBack(t *testing.T) {
	takesBack(t, "StepsOf SumsOf", impl.SumsOf, impl.StepsOf, sampleRows())
	for _, row := range sampleRows() {
		if len(row) > 0 {
			sameNumber(t, "last of SumsOf", row, lastOf(t, impl.SumsOf(row)), totalOf(row))
		}
	}
}

func lastOf(t *testing.T, numbers []int) int {
	t.Helper()
	if len(numbers) == 0 {
		t.Fatal("there is no last number")
	}
	return numbers[len(numbers)-1]
}

func TestPromise3StepsAreSummedUp(t *testing.T) {
	takesBack(t, "SumsOf StepsOf", impl.StepsOf, impl.SumsOf, sampleRows())
}

func TestPromise4EdgesGiveTheRowBack(t *testing.T) {
	takesBack(t, "FromEdge EdgeOf", impl.EdgeOf, impl.FromEdge, sampleRows())
}

func TestPromise5RowsGiveTheEdgeBack(t *testing.T) {
	takesBack(t, "EdgeOf FromEdge", impl.FromEdge, impl.EdgeOf, sampleRows())
	for _, row := range sampleRows() {
		if len(row) == impl.MaxRow {
			continue
		}
		for _, number := range []int{-1000, 0, 7} {
			longer := append(slices.Clone(row), number)
			edge, numbers := impl.EdgeOf(longer), impl.FromEdge(longer)
			if len(edge) != len(longer) || len(numbers) != len(longer) {
				t.Fatalf("EdgeOf(%v) = %v, FromEdge = %v", longer, edge, numbers)
			}
			sameNumbers(t, "EdgeOf the first numbers of", longer, edge[:len(row)], impl.EdgeOf(row))
			sameNumbers(t, "FromEdge the first numbers of", longer, numbers[:len(row)], impl.FromEdge(row))
		}
	}
}

func TestPromise6StepsHaveOneDegreeLess(t *testing.T) {
	checked := map[int]bool{}
	for _, row := range sampleRows() {
		degree := impl.DegreeOf(row)
		differences := differencesOf(row)
		if degree >= 0 && impl.ValidRow(differences) {
			sameNumber(t, "DegreeOf the differences", row, impl.DegreeOf(differences), degree-1)
			checked[degree] = true
		}
	}
	for degree := range impl.MaxRow {
		if !checked[degree] {
			t.Errorf("no row of degree %d was checked", degree)
		}
	}
}

// differencesOf returns each number but the first one less the one ahead.
func differencesOf(row []int) []int {
	var differences []int
	for i := 1; i < len(row); i++ {
		differences = append(differences, row[i]-row[i-1])
	}
	return differences
}

func TestPromise7SumsOverPartsAreTakenBack(t *testing.T) {
	takesBack(t, "UnbelowOf BelowOf", impl.BelowOf, impl.UnbelowOf, binaryRows())
	for _, row := range binaryRows() {
		sums := impl.BelowOf(row)
		sameNumber(t, "last of BelowOf", row, lastOf(t, sums), totalOf(row))
		sameNumber(t, "first of BelowOf", row, sums[0], row[0])
	}
}

func TestPromise8NumbersOfSumsAreSummedUp(t *testing.T) {
	takesBack(t, "BelowOf UnbelowOf", impl.UnbelowOf, impl.BelowOf, binaryRows())
}

func TestPromise9SumsOverDivisorsAreTakenBack(t *testing.T) {
	takesBack(t, "UndivisorSums DivisorSums", impl.DivisorSums, impl.UndivisorSums, sampleRows())
}

func TestPromise10NumbersOfSumsOverDivisorsAreSummedUp(t *testing.T) {
	takesBack(t, "DivisorSums UndivisorSums", impl.UndivisorSums, impl.DivisorSums, sampleRows())
}
