package tests

import (
	"math"
	"math/bits"
	"slices"
	"strconv"
	"strings"
	"testing"

	"loop.example/wholewaves/impl"
)

// noPlaces and allPlaces are the least and the greatest set.
const (
	noPlaces  = 0
	allPlaces = 8191
)

// setOf returns the set of places.
func setOf(places ...int) int {
	set := 0
	for _, place := range places {
		set |= 1 << place
	}
	return set
}

func countPlaces(set int) int {
	return bits.OnesCount(uint(set))
}

// sampleSets returns no places, all of them, each one alone and left out, some
// side by side and in steps, and mixed ones.
func sampleSets() []int {
	sets := []int{noPlaces, allPlaces, setOf(0, 1, 3), setOf(0, 1, 4, 6), setOf(0, 3, 6, 9, 12), setOf(1, 3, 5, 7, 9, 11)}
	for place := range 13 {
		sets = append(sets, 1<<place, allPlaces-1<<place, 1<<place-1, allPlaces-(1<<place-1), 1|1<<place)
	}
	for _, row := range mixedRows(40, 1000, 1) {
		for _, number := range row {
			sets = append(sets, (number+1000)*4)
		}
	}
	return sets
}

// wrongSets returns numbers that are no sets of places in 0..12.
func wrongSets() []int {
	return []int{-1, -2, -8191, -8192, 8192, 8193, 16383, 1 << 40, math.MaxInt, math.MinInt}
}

// sumCounts returns how many pairs add up to each place by the definition.
func sumCounts(a int, b int) []int {
	counts := make([]int, 13)
	for x := range 13 {
		for y := range 13 {
			sum := x + y
			if sum > 12 {
				sum -= 13
			}
			counts[sum] += a >> x & 1 * (b >> y & 1)
		}
	}
	return counts
}

// sumSet returns the set of sums by the definition.
func sumSet(a int, b int) int {
	set := 0
	for place, count := range sumCounts(a, b) {
		if count > 0 {
			set += 1 << place
		}
	}
	return set
}

func TestSumSet(t *testing.T) {
	for _, e := range []struct{ a, b, want int }{
		{noPlaces, noPlaces, noPlaces},
		{noPlaces, 5, noPlaces},
		{5, noPlaces, noPlaces},
		{noPlaces, allPlaces, noPlaces},
		{allPlaces, noPlaces, noPlaces},
		{allPlaces, allPlaces, allPlaces},
		{allPlaces, setOf(7), allPlaces},
		{setOf(0), allPlaces, allPlaces},
		{setOf(0), setOf(0), setOf(0)},
		{setOf(0), setOf(12), setOf(12)},
		{setOf(1), setOf(12), setOf(0)},
		{setOf(12), setOf(12), setOf(11)},
		{setOf(0, 1), setOf(0, 2), setOf(0, 1, 2, 3)},
		{setOf(0, 1), setOf(0, 1), setOf(0, 1, 2)},
		{setOf(11, 12), setOf(1, 2), setOf(0, 1, 12)},
		{setOf(0, 1, 2, 3, 4, 5, 6), setOf(0, 1, 2, 3, 4, 5, 6), allPlaces},
	} {
		sameNumber(t, "SumSet", []int{e.a, e.b}, impl.SumSet(e.a, e.b), e.want)
	}
	for _, a := range sampleSets() {
		for _, b := range sampleSets() {
			sameNumber(t, "SumSet", []int{a, b}, impl.SumSet(a, b), sumSet(a, b))
		}
	}
	for set := range allPlaces + 1 {
		sameNumber(t, "SumSet of a set and itself", []int{set}, impl.SumSet(set, set), sumSet(set, set))
	}
}

func TestSumCounts(t *testing.T) {
	for _, e := range []struct {
		a, b int
		want []int
	}{
		{noPlaces, noPlaces, repeated(0, 13)},
		{noPlaces, allPlaces, repeated(0, 13)},
		{allPlaces, noPlaces, repeated(0, 13)},
		{allPlaces, allPlaces, repeated(13, 13)},
		{allPlaces, setOf(3), repeated(1, 13)},
		{allPlaces, setOf(0, 12), repeated(2, 13)},
		{setOf(0), setOf(0), append([]int{1}, repeated(0, 12)...)},
		{setOf(12), setOf(12), append(repeated(0, 11), 1, 0)},
		{setOf(0, 1), setOf(0, 1), append([]int{1, 2, 1}, repeated(0, 10)...)},
		{setOf(0, 12), setOf(0, 1), append([]int{2, 1}, append(repeated(0, 10), 1)...)},
	} {
		sameNumbers(t, "SumCounts", []int{e.a, e.b}, impl.SumCounts(e.a, e.b), e.want)
	}
	for _, a := range sampleSets() {
		for _, b := range sampleSets() {
			sameNumbers(t, "SumCounts", []int{a, b}, impl.SumCounts(a, b), sumCounts(a, b))
		}
	}
}

func TestOtherSetsHaveNoSums(t *testing.T) {
	for _, other := range wrongSets() {
		for _, set := range append(wrongSets(), noPlaces, 1, 5, allPlaces) {
			sameNumber(t, "SumSet", []int{set, other}, impl.SumSet(set, other), -1)
			sameNumber(t, "SumSet", []int{other, set}, impl.SumSet(other, set), -1)
			sameNumbers(t, "SumCounts", []int{set, other}, impl.SumCounts(set, other), nil)
			sameNumbers(t, "SumCounts", []int{other, set}, impl.SumCounts(other, set), nil)
		}
		if impl.IsSparse(other) {
			t.Errorf("IsSparse(%d) = true", other)
		}
	}
}

// sparse reports whether all pairs of a set have other sums by the definition.
func sparse(set int) bool {
	var sums []int
	for x := range 13 {
		for y := x; y < 13; y++ {
			if set>>x&1 == 1 && set>>y&1 == 1 {
				sums = append(sums, (x+y)%13)
			}
		}
	}
	slices.Sort(sums)
	return len(slices.Compact(slices.Clone(sums))) == len(sums)
}

func TestIsSparse(t *testing.T) {
	for _, set := range []int{noPlaces, setOf(0), setOf(12), setOf(0, 1), setOf(0, 12), setOf(0, 1, 3), setOf(0, 1, 4, 6), setOf(0, 1, 3, 9), setOf(4, 5, 7, 0)} {
		if !impl.IsSparse(set) {
			t.Errorf("IsSparse(%d) = false", set)
		}
	}
	for _, set := range []int{
		allPlaces,
		setOf(0, 1, 2),
		setOf(0, 1, 3, 4),
		// One and itself have the sum of two others only round the circle.
		setOf(0, 1, 7),
		setOf(10, 12, 1),
		// So do two and two others.
		setOf(0, 1, 8, 6),
		setOf(0, 1, 4, 6, 9),
	} {
		if impl.IsSparse(set) {
			t.Errorf("IsSparse(%d) = true", set)
		}
	}
	found := make([]int, 14)
	for set := range allPlaces + 1 {
		holds := impl.IsSparse(set)
		if holds != sparse(set) {
			t.Errorf("IsSparse(%d) = %v", set, holds)
		}
		if holds {
			found[countPlaces(set)]++
		}
	}
	// Of the sets of three places 78 are in equal steps round the circle.
	sameNumbers(t, "sets for which IsSparse holds, of places", nil, found[:6], []int{1, 13, 78, 286 - 78, 52, 0})
}

func TestMostSparse(t *testing.T) {
	sameNumber(t, "MostSparse", nil, impl.MostSparse(), setOf(0, 1, 4, 6))
	// The same one at each call.
	sameNumber(t, "MostSparse again", nil, impl.MostSparse(), 83)
}

// sequences returns all texts of these letters of 0 up to a length.
func sequences(known string, length int) []string {
	texts := []string{""}
	for from := 0; length > 0; length-- {
		to := len(texts)
		for _, text := range texts[from:to] {
			for _, letter := range known {
				texts = append(texts, text+string(letter))
			}
		}
		from = to
	}
	return texts
}

// mixedText returns a text of a length, always the same one.
func mixedText(known string, length int) string {
	var text strings.Builder
	for _, number := range mixedRows(length, 500, 1)[0] {
		text.WriteByte(known[(number+500)%len(known)])
	}
	return text.String()
}

// textPairs returns texts and patterns, all of the short ones, and long ones up
// to the limits.
func textPairs() [][2]string {
	var pairs [][2]string
	for _, text := range sequences("abcd", 4) {
		for _, pattern := range sequences("abcd?", 3)[1:] {
			pairs = append(pairs, [2]string{text, pattern})
		}
	}
	for length := range 21 {
		for _, text := range []string{strings.Repeat("d", length), strings.Repeat("abcd", 5)[:length], mixedText("abcd", length)} {
			for count := 1; count <= 20; count++ {
				for _, pattern := range []string{strings.Repeat("?", count), strings.Repeat("d", count), strings.Repeat("ab?d", 5)[:count], mixedText("abcd?", count), mixedText("abc????", count)} {
					pairs = append(pairs, [2]string{text, pattern})
				}
			}
		}
	}
	return pairs
}

// missesOf returns how many letters are others by the definition.
func missesOf(text string, pattern string) []int {
	var all []int
	for i := range len(text) {
		misses := 0
		for j := range len(pattern) {
			if i+j >= len(text) {
				return all
			}
			if letter := pattern[j : j+1]; letter != "?" && letter != text[i+j:i+j+1] {
				misses++
			}
		}
		all = append(all, misses)
	}
	return all
}

// matchesOf returns where letters are those of a pattern by the definition.
func matchesOf(text string, pattern string) []int {
	var all []int
	for i, misses := range missesOf(text, pattern) {
		if misses == 0 {
			all = append(all, i)
		}
	}
	return all
}

// samePlaces fails unless got has just the numbers of want.
func samePlaces(t *testing.T, name string, s string, p string, got []int, want []int) {
	t.Helper()
	if !slices.Equal(got, want) {
		t.Errorf("%s(%q, %q) = %v, want %v", name, s, p, got, want)
	}
}

// textExample is a text, a pattern, and what a function of both must return.
type textExample struct {
	s, p string
	want []int
}

// checkTexts holds a function of texts against examples, and against its
// definition for all other ones.
func checkTexts(t *testing.T, name string, function, definition func(s string, p string) []int, examples []textExample) {
	t.Helper()
	for _, e := range examples {
		samePlaces(t, name, e.s, e.p, function(e.s, e.p), e.want)
	}
	for _, pair := range textPairs() {
		samePlaces(t, name, pair[0], pair[1], function(pair[0], pair[1]), definition(pair[0], pair[1]))
	}
}

func TestMatchesOf(t *testing.T) {
	longest := strings.Repeat("abcd", 5)
	checkTexts(t, "MatchesOf", impl.MatchesOf, matchesOf, []textExample{
		{"", "a", nil},
		{"", "?", nil},
		{"a", "a", []int{0}},
		{"a", "b", nil},
		{"a", "?", []int{0}},
		{"ab", "??", []int{0}},
		{"ab", "???", nil},
		{"ab", "abc", nil},
		{"abcd", "?", []int{0, 1, 2, 3}},
		{"abcd", "??", []int{0, 1, 2}},
		{"aaa", "aa", []int{0, 1}},
		{"abcab", "a?", []int{0, 3}},
		{"abcab", "?b", []int{0, 3}},
		{"abcab", "c?", []int{2}},
		{"abcab", "b?", []int{1}},
		{"abcab", "d", nil},
		{"abab", "ab", []int{0, 2}},
		{"ababa", "a?a", []int{0, 2}},
		{longest, longest, []int{0}},
		{longest, strings.Repeat("?", 20), []int{0}},
		{longest, strings.Repeat("?", 19), []int{0, 1}},
		{longest, "d", []int{3, 7, 11, 15, 19}},
		{longest, "d?", []int{3, 7, 11, 15}},
		{longest, "???d???d", []int{0, 4, 8, 12}},
		{longest, longest[:19] + "a", nil},
	})
}

func TestMissesOf(t *testing.T) {
	longest := strings.Repeat("abcd", 5)
	checkTexts(t, "MissesOf", impl.MissesOf, missesOf, []textExample{
		{"", "a", nil},
		{"", "?", nil},
		{"a", "ab", nil},
		{"a", "??", nil},
		{"a", "a", []int{0}},
		{"a", "d", []int{1}},
		{"d", "?", []int{0}},
		{"abcab", "ab?", []int{0, 2, 2}},
		{"abcab", "??", []int{0, 0, 0, 0}},
		{"abcab", "b", []int{1, 0, 1, 1, 0}},
		{"aaa", "bbb", []int{3}},
		{"aaa", "b?b", []int{2}},
		{longest, longest, []int{0}},
		{longest, strings.Repeat("dcba", 5), []int{20}},
		{longest, strings.Repeat("?", 20), []int{0}},
		{longest, strings.Repeat("?", 18), []int{0, 0, 0}},
	})
}

// haveNoMatches fails unless a text and a pattern have neither matches nor
// misses.
func haveNoMatches(t *testing.T, text string, pattern string) {
	t.Helper()
	samePlaces(t, "MatchesOf", text, pattern, impl.MatchesOf(text, pattern), nil)
	samePlaces(t, "MissesOf", text, pattern, impl.MissesOf(text, pattern), nil)
}

// TestOtherTextsHaveNoMatches checks texts and patterns that are too long, or
// of other letters, among them the next ones to a and d and those of many bytes.
func TestOtherTextsHaveNoMatches(t *testing.T) {
	both := []string{strings.Repeat("a", 21), strings.Repeat("abcd", 1000)}
	for _, letter := range []string{"e", "`", "A", "D", " ", "\n", "*", "1", "\x00", "\x7f", "\xff", "\xe1", "\u00e4", "\u0430", "\uff41"} {
		both = append(both, letter, "ab"+letter, letter+"ab", "a"+letter+"b")
	}
	texts := append(slices.Clone(both), "?", "a?", "?a", "a?b")
	patterns := append(slices.Clone(both), "", strings.Repeat("?", 21))
	for _, text := range texts {
		for _, pattern := range []string{"a", "?", "ab", text} {
			haveNoMatches(t, text, pattern)
		}
	}
	for _, pattern := range patterns {
		for _, text := range []string{"", "a", "aabb", strings.Repeat("a", 20), pattern} {
			haveNoMatches(t, text, pattern)
		}
	}
}

// deskWord is a word of the desk, the function that it stands for, and a text
// that this takes.
type deskWord struct {
	name     string
	function transform
	right    string
}

func deskWords() []deskWord {
	return []deskWord{
		{"edge", impl.EdgeOf, "5"},
		{"signs", impl.SignsOf, "-1000,1000"},
		{"wave", impl.WaveOf, "96,0,1"},
		{"halve", impl.HalveOf, "5,8"},
		{"leap", impl.LeapOf, "1,-4"},
		{"self", impl.SelfOf, "-7,0,7"},
	}
}

// listed returns numbers as the desk writes them.
func listed(numbers []int) string {
	var parts []string
	for _, number := range numbers {
		parts = append(parts, strconv.Itoa(number))
	}
	return strings.Join(parts, ",")
}

// sameAnswers fails unless the lines have just these answers, each of them also
// when it is asked alone.
func sameAnswers(t *testing.T, lines []string, answers []string) {
	t.Helper()
	all := ""
	for i, line := range lines {
		if got := impl.RunDesk([]string{line}); got != answers[i]+"\n" {
			t.Errorf("RunDesk(%q) = %q, want %q", line, got, answers[i])
		}
		all += answers[i] + "\n"
	}
	if got := impl.RunDesk(lines); len(lines) <= 20 && got != all {
		t.Errorf("RunDesk(%q) = %q, want %q", lines, got, all)
	}
}

// haveAnswer fails unless each of the lines has this answer.
func haveAnswer(t *testing.T, answer string, lines []string) {
	t.Helper()
	sameAnswers(t, lines, slices.Repeat([]string{answer}, len(lines)))
}

func TestDeskAnswers(t *testing.T) {
	sixteen := strings.TrimSuffix(strings.Repeat("1,", 16), ",")
	sameAnswers(t,
		[]string{"edge 1,4,9,16", "signs 1,2,3,4", "wave 0,1,0,0", "halve 5,8,3,-4", "leap 1,2,3,4", "self 1,2,3"},
		[]string{"1,3,2,0", "10,-2,-4,0", "1,22,96,75", "6,-1,3,-7", "1,3,0,1", "14,8,3"})
	sameAnswers(t,
		[]string{"edge 0", "signs -5", "wave 96", "halve -3,-4", "leap 0,0", "self -9"},
		[]string{"0", "-5", "96", "-4,-1", "0,0", "81"})
	sameAnswers(t,
		[]string{"edge 1000,-1000", "signs 1000,-1000", "wave 0,0", "halve -1000,1000", "leap 1000,-1000", "self 1000,1000"},
		[]string{"1000,-2000", "0,2000", "0,0", "0,2000", "0,-2000", "2000000,1000000"})
	sameAnswers(t,
		[]string{"edge " + sixteen, "signs " + sixteen, "wave " + sixteen, "halve " + sixteen, "leap " + sixteen, "self " + sixteen},
		[]string{
			"1,0,0,0,0,0,0,0,0,0,0,0,0,0,0,0", "16,0,0,0,0,0,0,0,0,0,0,0,0,0,0,0", "16,0,0,0,0,0,0,0,0,0,0,0,0,0,0,0",
			"1,1,1,1,1,1,1,1,0,0,0,0,0,0,0,0", "1,1,1,1,1,1,1,1,0,0,0,0,0,0,0,0", "16,15,14,13,12,11,10,9,8,7,6,5,4,3,2,1",
		})
}

// TestDeskWords holds each word against its function, of numbers that it takes
// and of others.
func TestDeskWords(t *testing.T) {
	rows := slices.Concat(sampleRows(), sampleRests(), wrongRows())
	for _, word := range deskWords() {
		for _, row := range rows {
			want := "wrong"
			if numbers := word.function(row); len(numbers) > 0 && len(row) <= 16 {
				want = listed(numbers)
			}
			sameAnswers(t, []string{word.name + " " + listed(row)}, []string{want})
		}
	}
}

func TestWrongNumbers(t *testing.T) {
	haveAnswer(t, "wrong", []string{"signs 1,2,3", "signs 1,1,1,1,1", "wave 97", "wave -1", "wave 1,2,3,4,5", "wave 0,97", "halve 1", "halve 1,2,3", "leap 1", "leap 1,2,3"})
	// 24 numbers are rests, but more than a line may have.
	for _, count := range []int{17, 24, 32, 48, 96} {
		for _, word := range deskWords() {
			haveAnswer(t, "wrong", []string{word.name + " " + listed(repeated(1, count))})
		}
	}
}

func TestWrongTexts(t *testing.T) {
	texts := []string{
		"", ",", "1,", ",1", "1,,2", "1;2", "1.2", ".", "-", "--1", "-,1", "1,-", "1-", "1-2", "+1", "1,+2",
		"01", "1,01", "00", "-0", "1,-0", "-01", "0x1", "1e2", "1_0", "1_000", "\u0661", "\uff11", "\u22121",
		"x", "1,x", "edge", "1\t2", "\t1", "1\n", "\n", "1\r", "1\x00", "1\u00a0", "\xff",
		"1001", "-1001", "1,1001", "1000,-1001", "9223372036854775807", "9223372036854775808", "-9223372036854775809",
		"18446744073709551617,0", strings.Repeat("9", 1000), strings.Repeat("0,", 1000) + "0",
	}
	for _, word := range deskWords() {
		for _, text := range texts {
			haveAnswer(t, "wrong", []string{word.name + " " + text})
		}
	}
}

func TestOtherLines(t *testing.T) {
	haveAnswer(t, "what", []string{"", " ", "  ", "1", "1,2", " 1", "walk 1", "walk ", "edges 1", "edg 1", "Edge 1", "EDGE 1", "wrong", "what", "sum 1,2", "\n", "\xff 1", "edge,1", "edge\t1", "edge\n1"})
	for _, word := range deskWords() {
		haveAnswer(t, "what", []string{
			word.name,
			word.name + word.right,
			" " + word.name,
			" " + word.name + " " + word.right,
			word.name + "  ",
			word.name + "  " + word.right,
			word.name + " " + word.right + " ",
			word.name + " " + word.right + " " + word.right,
			word.name + " 1, 2",
			word.name + " 1 ,2",
			word.name + " x y",
			word.name + "s " + word.right,
			"x" + word.name + " " + word.right,
			strings.ToUpper(word.name) + " " + word.right,
		})
	}
}

func TestDesksOfManyLines(t *testing.T) {
	if got := impl.RunDesk(nil); got != "" {
		t.Errorf("RunDesk of no lines = %q", got)
	}
	if got := impl.RunDesk([]string{}); got != "" {
		t.Errorf("RunDesk of no lines = %q", got)
	}
	for count := range 24 {
		want := strings.Repeat("3\n", count)
		if count > 20 {
			want = ""
		}
		if got := impl.RunDesk(slices.Repeat([]string{"edge 3"}, count)); got != want {
			t.Errorf("RunDesk of %d lines = %q, want %q", count, got, want)
		}
	}
	for _, line := range []string{"", "what", "edge "} {
		if got := impl.RunDesk(slices.Repeat([]string{line}, 21)); got != "" {
			t.Errorf("RunDesk of 21 lines = %q", got)
		}
	}
}

// TestLinesStay checks that RunDesk changes neither its lines nor what lies
// behind them, and answers alike again.
func TestLinesStay(t *testing.T) {
	lines := []string{"self 1,2", "edge ", "walk", "", "wave 1", "behind"}
	before := slices.Clone(lines)
	first := impl.RunDesk(lines[:5])
	if !slices.Equal(lines, before) {
		t.Errorf("RunDesk made its lines %q", lines)
	}
	if again := impl.RunDesk(lines[:5]); again != first {
		t.Errorf("RunDesk(%q) = %q, and then %q", lines[:5], first, again)
	}
}

// TestPlacesAreNew checks that a result of the chapter, and its spare capacity,
// belong to the caller alone.
func TestPlacesAreNew(t *testing.T) {
	functions := map[string]func() []int{
		"SumCounts":              func() []int { return impl.SumCounts(5, 9) },
		"SumCounts of no places": func() []int { return impl.SumCounts(0, 0) },
		"MatchesOf":              func() []int { return impl.MatchesOf("abcab", "a?") },
		"MissesOf":               func() []int { return impl.MissesOf("abcab", "a?") },
	}
	for name, function := range functions {
		first, second := function(), function()
		want := slices.Clone(second)
		for i := range first[:cap(first)] {
			first[:cap(first)][i] = 999
		}
		sameNumbers(t, name, nil, second, want)
		sameNumbers(t, name+" again", nil, function(), want)
	}
}
