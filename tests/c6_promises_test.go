package tests

import (
	"slices"
	"strings"
	"testing"

	"loop.example/wholewaves/impl"
)

func TestPromise42SumsAreMany(t *testing.T) {
	for _, a := range sampleSets() {
		for _, b := range sampleSets() {
			sums := impl.SumSet(a, b)
			sameNumber(t, "SumSet the other way", []int{a, b}, impl.SumSet(b, a), sums)
			if a == noPlaces || b == noPlaces {
				continue
			}
			least := min(countPlaces(a)+countPlaces(b)-1, 13)
			if sums < 0 || sums > allPlaces || countPlaces(sums) < least {
				t.Errorf("SumSet(%d, %d) = %d", a, b, sums)
			}
		}
	}
}

func TestPromise43CountsAreAllPairs(t *testing.T) {
	for _, a := range sampleSets() {
		for _, b := range sampleSets() {
			counts := impl.SumCounts(a, b)
			sameNumber(t, "how many are counted", []int{a, b}, len(counts), impl.Circle)
			sameNumber(t, "all of SumCounts", []int{a, b}, totalOf(counts), countPlaces(a)*countPlaces(b))
			set := 0
			for place, count := range counts {
				if count != 0 {
					set += 1 << place
				}
			}
			sameNumber(t, "SumSet by SumCounts", []int{a, b}, impl.SumSet(a, b), set)
		}
	}
}

func TestPromise44SparseSetsHaveFewPlaces(t *testing.T) {
	most := countPlaces(impl.MostSparse())
	held := 0
	for set := range allPlaces + 1 {
		if !impl.IsSparse(set) {
			continue
		}
		held++
		// Each pair counts both ways, and each place with itself once, so two
		// of the same sum would count 3 times at least.
		sums := impl.SumCounts(set, set)
		if len(sums) != impl.Circle || slices.Max(sums) > 2 {
			t.Fatalf("IsSparse(%d) = true, SumCounts = %v", set, sums)
		}
		if countPlaces(set) > most {
			t.Errorf("IsSparse(%d) = true, of more places than MostSparse", set)
		}
	}
	sameNumber(t, "sets for which IsSparse holds", nil, held, 352)
}

func TestPromise45TheGreatestSparseSetIsSparse(t *testing.T) {
	most := impl.MostSparse()
	if !impl.IsSparse(most) {
		t.Errorf("IsSparse(%d) = false", most)
	}
	for set := range allPlaces + 1 {
		if countPlaces(set) == countPlaces(most)+1 && impl.IsSparse(set) {
			t.Errorf("IsSparse(%d) = true, with one place more than %d", set, most)
		}
		if set < most && countPlaces(set) >= countPlaces(most) && impl.IsSparse(set) {
			t.Errorf("IsSparse(%d) = true, less than %d", set, most)
		}
	}
}

func TestPromise46MatchesHaveNoMisses(t *testing.T) {
	for _, pair := range textPairs() {
		s, p := pair[0], pair[1]
		var all, none []int
		for i, misses := range impl.MissesOf(s, p) {
			all = append(all, i)
			if misses == 0 {
				none = append(none, i)
			}
		}
		samePlaces(t, "MatchesOf", s, p, impl.MatchesOf(s, p), none)
		if strings.Trim(p, "?") == "" {
			samePlaces(t, "MatchesOf", s, p, impl.MatchesOf(s, p), all)
			sameNumber(t, "how many MatchesOf all", []int{len(s), len(p)}, len(all), max(len(s)-len(p)+1, 0))
		}
	}
}

func TestPromise47MissesAreAtMostTheLettersOfThePattern(t *testing.T) {
	reached := 0
	for _, pair := range textPairs() {
		s, p := pair[0], pair[1]
		misses := impl.MissesOf(s, p)
		sameNumber(t, "how many MissesOf", []int{len(s), len(p)}, len(misses), max(len(s)-len(p)+1, 0))
		known := len(p) - strings.Count(p, "?")
		for _, count := range misses {
			if count < 0 || count > known {
				t.Errorf("MissesOf(%q, %q) = %v", s, p, misses)
			}
			if count == known && known > 0 {
				reached++
			}
		}
	}
	if reached == 0 {
		t.Error("no text misses all letters of a pattern")
	}
}

// promiseDesk returns as many lines as a desk may have, of all answers.
func promiseDesk() []string {
	lines := []string{"", "walk", " ", "edge 1 2", "edge ", "self x", "halve 1,2,3", "wave 97"}
	for _, word := range deskWords() {
		lines = append(lines, word.name+" "+word.right, word.name+" ")
	}
	return lines
}

func TestPromise48EachLineHasAnAnswer(t *testing.T) {
	lines := promiseDesk()
	sameNumber(t, "lines of the desk", nil, len(lines), impl.MaxDesk)
	for range lines {
		all := impl.RunDesk(lines)
		for count := range len(lines) + 1 {
			first := impl.RunDesk(lines[:count])
			if strings.Count(first, "\n") != count || !strings.HasPrefix(all, first) {
				t.Errorf("RunDesk(%q) = %q, RunDesk of all = %q", lines[:count], first, all)
			}
		}
		lines = append(lines[1:], lines[0])
	}
}
