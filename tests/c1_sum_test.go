package tests

import (
	"testing"

	"loop.example/wholewaves/impl"
)

// example is an input and what a function must return for it.
type example struct {
	row  []int
	want []int
}

func checkExamples(t *testing.T, name string, function transform, examples []example) {
	t.Helper()
	for _, e := range examples {
		sameNumbers(t, name, e.row, function(e.row), e.want)
	}
}

func TestValidRow(t *testing.T) {
	rows := [][]int{nil, {}, {0}, {1000}, {-1000}, {1000, -1000}, repeated(1000, 16), repeated(-1000, 16)}
	for _, row := range append(rows, sampleRows()...) {
		if !impl.ValidRow(row) {
			t.Errorf("ValidRow(%v) = false", row)
		}
	}
	for _, row := range wrongRows() {
		if impl.ValidRow(row) {
			t.Errorf("ValidRow(%v) = true", row)
		}
	}
}

func TestConstants(t *testing.T) {
	if impl.MaxRow != 16 || impl.MaxValue != 1000 || impl.MaxBits != 4 {
		t.Errorf("MaxRow, MaxValue, MaxBits = %d, %d, %d", impl.MaxRow, impl.MaxValue, impl.MaxBits)
	}
}

func TestSumsOf(t *testing.T) {
	checkExamples(t, "SumsOf", impl.SumsOf, []example{
		{nil, nil},
		{[]int{-7}, []int{-7}},
		{[]int{4, 4, 4, 4}, []int{4, 8, 12, 16}},
		{[]int{1, 4, 9, 16}, []int{1, 5, 14, 30}},
		{[]int{3, -5, 0, 2}, []int{3, -2, -2, 0}},
		{[]int{1000, 1000, -1000}, []int{1000, 2000, 1000}},
	})
	last := impl.SumsOf(repeated(1000, 16))
	if len(last) != 16 || last[15] != 16000 {
		t.Errorf("SumsOf 16 times 1000 = %v", last)
	}
}

func TestStepsOf(t *testing.T) {
	checkExamples(t, "StepsOf", impl.StepsOf, []example{
		{nil, nil},
		{[]int{-7}, []int{-7}},
		{[]int{4, 4, 4, 4}, []int{4, 0, 0, 0}},
		{[]int{1, 4, 9, 16}, []int{1, 3, 5, 7}},
		{[]int{3, -5, 0, 2}, []int{3, -8, 5, 2}},
		{[]int{1000, -1000, 1000}, []int{1000, -2000, 2000}},
	})
}

func TestEdgeOf(t *testing.T) {
	checkExamples(t, "EdgeOf", impl.EdgeOf, []example{
		{nil, nil},
		{[]int{-7}, []int{-7}},
		{[]int{4, 4, 4, 4}, []int{4, 0, 0, 0}},
		{[]int{1, 4, 9, 16}, []int{1, 3, 2, 0}},
		{[]int{0, 1, 8, 27, 64}, []int{0, 1, 6, 6, 0}},
		{[]int{1, 2, 4, 8, 16}, []int{1, 1, 1, 1, 1}},
		{[]int{1000, -1000, 1000, -1000}, []int{1000, -2000, 4000, -8000}},
	})
	far := make([]int, 16)
	for i := range far {
		far[i] = 1000 - 2000*(i%2)
	}
	if edge := impl.EdgeOf(far); len(edge) != 16 || edge[15] != -1000<<15 {
		t.Errorf("EdgeOf(%v) = %v", far, edge)
	}
}

func TestFromEdge(t *testing.T) {
	checkExamples(t, "FromEdge", impl.FromEdge, []example{
		{nil, nil},
		{[]int{-7}, []int{-7}},
		{[]int{4, 0, 0, 0}, []int{4, 4, 4, 4}},
		{[]int{1, 3, 2, 0}, []int{1, 4, 9, 16}},
		{[]int{1, 1, 1, 1, 1}, []int{1, 2, 4, 8, 16}},
		{[]int{0, 1, 6, 6, 0}, []int{0, 1, 8, 27, 64}},
	})
	far := impl.FromEdge(repeated(1000, 16))
	if len(far) != 16 || far[15] != 1000<<15 {
		t.Errorf("FromEdge 16 times 1000 = %v", far)
	}
}

// chosen returns how many ways there are to choose k of n.
func chosen(n int, k int) int {
	ways := 1
	for i := range k {
		ways = ways * (n - i) / (i + 1)
	}
	return ways
}

// TestFromEdgeByBinomials holds FromEdge against the formula of Newton.
func TestFromEdgeByBinomials(t *testing.T) {
	for _, row := range sampleRows() {
		want := make([]int, len(row))
		for i := range row {
			for k := 0; k <= i; k++ {
				want[i] += chosen(i, k) * row[k]
			}
		}
		sameNumbers(t, "FromEdge", row, impl.FromEdge(row), want)
	}
}

// TestEdgeOfByBinomials holds EdgeOf against its sum with signs.
func TestEdgeOfByBinomials(t *testing.T) {
	for _, row := range sampleRows() {
		want := make([]int, len(row))
		for k := range row {
			for i := 0; i <= k; i++ {
				want[k] += (1 - 2*((k-i)%2)) * chosen(k, i) * row[i]
			}
		}
		sameNumbers(t, "EdgeOf", row, impl.EdgeOf(row), want)
	}
}

func TestDegreeOf(t *testing.T) {
	examples := []struct {
		row  []int
		want int
	}{
		{nil, -1},
		{[]int{0}, -1},
		{repeated(0, 16), -1},
		{[]int{-7}, 0},
		{repeated(5, 16), 0},
		{[]int{0, 1}, 1},
		{[]int{9, 7, 5, 3}, 1},
		{[]int{1, 4, 9, 16}, 2},
		{[]int{0, 0, 1}, 2},
		{[]int{1, -1, 1}, 2},
		{[]int{0, 1, 8, 27, 64}, 3},
		{append(repeated(0, 15), 1), 15},
		{append([]int{1}, repeated(0, 15)...), 15},
	}
	for _, e := range examples {
		sameNumber(t, "DegreeOf", e.row, impl.DegreeOf(e.row), e.want)
	}
	for _, row := range wrongRows() {
		sameNumber(t, "DegreeOf", row, impl.DegreeOf(row), -2)
	}
}

// TestDegreeIsLastOfEdge holds DegreeOf against the edge.
func TestDegreeIsLastOfEdge(t *testing.T) {
	for _, row := range sampleRows() {
		want := -1
		for k, number := range impl.EdgeOf(row) {
			if number != 0 {
				want = k
			}
		}
		sameNumber(t, "DegreeOf", row, impl.DegreeOf(row), want)
	}
}

func TestBelowOf(t *testing.T) {
	checkExamples(t, "BelowOf", impl.BelowOf, []example{
		{[]int{-7}, []int{-7}},
		{[]int{2, 5}, []int{2, 7}},
		{[]int{1, 2, 3, 4}, []int{1, 3, 4, 10}},
		{[]int{4, 4, 4, 4}, []int{4, 8, 8, 16}},
		{[]int{1, 10, 100, 0, 1000, 0, 0, -1}, []int{1, 11, 101, 111, 1001, 1011, 1101, 1110}},
	})
	last := impl.BelowOf(repeated(1000, 16))
	if len(last) != 16 || last[15] != 16000 {
		t.Errorf("BelowOf 16 times 1000 = %v", last)
	}
	for _, row := range sampleRows() {
		if !binaryLength(len(row)) {
			continue
		}
		want := make([]int, len(row))
		for index := range row {
			for part := range row {
				if part&index == part {
					want[index] += row[part]
				}
			}
		}
		sameNumbers(t, "BelowOf", row, impl.BelowOf(row), want)
	}
}

func TestUnbelowOf(t *testing.T) {
	checkExamples(t, "UnbelowOf", impl.UnbelowOf, []example{
		{[]int{-7}, []int{-7}},
		{[]int{2, 7}, []int{2, 5}},
		{[]int{1, 3, 4, 10}, []int{1, 2, 3, 4}},
		{[]int{4, 4, 4, 4}, []int{4, 0, 0, 0}},
		{[]int{1000, -1000, -1000, 1000}, []int{1000, -2000, -2000, 4000}},
		{[]int{0, 0, 0, 0, 0, 0, 0, 9}, []int{0, 0, 0, 0, 0, 0, 0, 9}},
		{[]int{9, 0, 0, 0, 0, 0, 0, 0}, []int{9, -9, -9, 9, -9, 9, 9, -9}},
	})
}

func TestDivisorSums(t *testing.T) {
	checkExamples(t, "DivisorSums", impl.DivisorSums, []example{
		{nil, nil},
		{[]int{-7}, []int{-7}},
		{[]int{1, 1, 1, 1, 1, 1}, []int{1, 2, 2, 3, 2, 4}},
		{[]int{1, 2, 3, 4, 5, 6, 7, 8}, []int{1, 3, 4, 7, 6, 12, 8, 15}},
		{[]int{1000, 1000, -1000}, []int{1000, 2000, 0}},
		{repeated(1000, 4), []int{1000, 2000, 2000, 3000}},
	})
	for _, row := range sampleRows() {
		want := make([]int, len(row))
		for n := 1; n <= len(row); n++ {
			for d := 1; d <= n; d++ {
				if n%d == 0 {
					want[n-1] += row[d-1]
				}
			}
		}
		sameNumbers(t, "DivisorSums", row, impl.DivisorSums(row), want)
	}
}

func TestUndivisorSums(t *testing.T) {
	checkExamples(t, "UndivisorSums", impl.UndivisorSums, []example{
		{nil, nil},
		{[]int{-7}, []int{-7}},
		{[]int{4, 4, 4, 4}, []int{4, 0, 0, 0}},
		{[]int{1, 2, 3, 4, 5, 6}, []int{1, 1, 2, 2, 4, 2}},
		{[]int{1, 0, 0, 0, 0, 0, 0, 0, 0, 0, 0, 0}, []int{1, -1, -1, 0, -1, 1, -1, 0, 0, 1, -1, 0}},
		{[]int{-1000, 1000, 1000, 0, 0, 1000}, []int{-1000, 2000, 2000, -1000, 1000, -2000}},
	})
}
