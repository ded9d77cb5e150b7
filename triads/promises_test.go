package triads_test

import (
	"slices"
	"strings"
	"testing"

	"sackbut/api"
	"sackbut/triads"
)

// shiftsOf yields all shifts of a circle.
func shiftsOf(n int) func(yield func(k int, turned bool) bool) {
	return func(yield func(k int, turned bool) bool) {
		for k := range n {
			if !yield(k, false) || !yield(k, true) {
				return
			}
		}
	}
}

// P4.8

func TestStepsTwiceLeadBack(t *testing.T) {
	for x := range kinds {
		for triad := range 2 * x.N {
			for _, letter := range []string{"P", "L", "R"} {
				if to := must[int](t)(triads.Walk(x, triad, letter+letter)); to != triad {
					t.Fatal(x, triad, letter, to)
				}
				there := must[int](t)(triads.Walk(x, triad, letter))
				if back := must[int](t)(triads.Walk(x, there, letter)); back != triad {
					t.Fatal(x, triad, letter, there, back)
				}
			}
		}
	}
}

func TestStepsChangeTheSortAndKeepTwoTones(t *testing.T) {
	for x := range kinds {
		for triad := range 2 * x.N {
			tones := plainOrdered(x, triad)
			for letter, kept := range map[string]int{"P": setOf(tones[0], tones[2]), "L": setOf(tones[1], tones[2]), "R": setOf(tones[0], tones[1])} {
				to := must[int](t)(triads.Walk(x, triad, letter))
				if (to < x.N) == (triad < x.N) {
					t.Fatal(x, triad, letter, to, "of the same sort")
				}
				from, there := must[int](t)(triads.Tones(x, triad)), must[int](t)(triads.Tones(x, to))
				if from&there != kept {
					t.Fatal(x, triad, letter, to, from&there, kept)
				}
			}
		}
	}
}

// P4.9

func TestWalksAndShiftsChangePlaces(t *testing.T) {
	for x := range kinds {
		if x.N > 9 && (x.N+x.A+x.B)%7 != 0 {
			continue
		}
		for _, walk := range []string{"", "P", "L", "R", "PL", "RL", "PLR", "LRPR", strings.Repeat("LRP", 19) + "L"} {
			for triad := range 2 * x.N {
				there := must[int](t)(triads.Walk(x, triad, walk))
				for k, turned := range shiftsOf(x.N) {
					first := must[int](t)(triads.Shift(x, there, k, turned))
					shifted := must[int](t)(triads.Shift(x, triad, k, turned))
					if last := must[int](t)(triads.Walk(x, shifted, walk)); first != last {
						t.Fatal(x, triad, walk, k, turned, first, last)
					}
				}
			}
		}
	}
}

func TestWalksThatLeadOneTriadToItself(t *testing.T) {
	for x := range kinds {
		for _, walk := range someWalks {
			empty := must[bool](t)(triads.Alike(x, walk, ""))
			for triad := range 2 * x.N {
				if to := must[int](t)(triads.Walk(x, triad, walk)); (to == triad) != empty {
					t.Fatal(x, triad, walk, to, empty)
				}
			}
		}
	}
}

// P4.10

func TestSizeIsWhatCanBeReached(t *testing.T) {
	for x := range kinds {
		reached := must[[]int](t)(triads.Round(x, 0, "PLR"))
		size := must[int](t)(triads.Size(x))
		if size != len(reached) {
			t.Fatal(x, size, reached)
		}
		count := 0
		for triad := range 2 * x.N {
			if _, e := triads.Way(x, 0, triad); e == api.OK {
				count++
			} else if size == 2*x.N {
				t.Fatal(x, triad, e)
			}
		}
		if count != size {
			t.Fatal(x, size, count)
		}
	}
}

func TestWalksOfFullSize(t *testing.T) {
	for x := range kinds {
		if must[int](t)(triads.Size(x)) != 2*x.N || x.N > 11 && x.A%3 != 0 {
			continue
		}
		for a := range 2 * x.N {
			for b := range 2 * x.N {
				way := must[string](t)(triads.Way(x, a, b))
				if to := must[int](t)(triads.Walk(x, a, way)); to != b {
					t.Fatal(x, a, b, way, to)
				}
				walk := someWalks[(a+b)%len(someWalks)]
				if there := must[int](t)(triads.Walk(x, a, walk)); must[bool](t)(triads.Alike(x, walk, way)) != (there == b) {
					t.Fatal(x, a, b, way, walk, there)
				}
			}
		}
	}
}

func TestOrderOfWalksWithAnOddNumberOfSteps(t *testing.T) {
	for x := range kinds {
		for _, walk := range someWalks {
			if k := must[int](t)(triads.Order(x, walk)); len(walk)%2 == 1 && k != 2 {
				t.Fatal(x, walk, k)
			}
		}
	}
}

// P4.11

func TestSizesOfRounds(t *testing.T) {
	for x := range kinds {
		for steps, number := range map[string]int{"PL": x.A, "LP": x.A, "PR": x.B - x.A, "RP": x.B - x.A, "LR": x.B, "RL": x.B} {
			for triad := range 2 * x.N {
				list := must[[]int](t)(triads.Round(x, triad, steps))
				if len(list) != 2*x.N/plainGCD(x.N, number) || !slices.Contains(list, triad) {
					t.Fatal(x, triad, steps, list)
				}
			}
		}
	}
}

// P4.12

func TestTours(t *testing.T) {
	tours, longOdd := 0, 0
	for x := range kinds {
		size := must[int](t)(triads.Size(x))
		for _, walk := range append(tourWalks(x), oddTourWalks(x)...) {
			if !must[bool](t)(triads.Tour(x, walk)) {
				continue
			}
			tours++
			if size != 2*x.N || len(walk)%2 == 1 && len(walk) < x.N {
				t.Fatal(x, walk, size)
			}
			if len(walk)%2 == 1 && len(walk) < 2*x.N {
				longOdd++
			}
		}
	}
	if tours == 0 || longOdd == 0 {
		t.Error("too few tours to tell", tours, longOdd)
	}
}

// oddTourWalks returns walks of up to 9 steps with an odd number of them: all of them on small circles, else none.
func oddTourWalks(x triads.Kind) []string {
	if x.N > 9 {
		return nil
	}
	var list []string
	level := []string{""}
	for length := 1; length <= 9; length++ {
		var next []string
		for _, walk := range level {
			for _, letter := range []string{"L", "P", "R"} {
				// A step that leads right back is in no tour.
				if !strings.HasSuffix(walk, letter) {
					next = append(next, walk+letter)
				}
			}
		}
		level = next
		if length%2 == 1 {
			list = append(list, level...)
		}
	}
	return list
}

func TestToursAreTours(t *testing.T) {
	for x := range kinds {
		walk, e := triads.Tours(x)
		if e == api.OK && (!must[bool](t)(triads.Tour(x, walk)) || len(walk) > 6) {
			t.Fatal(x, walk)
		}
	}
}

// P4.13

func TestFarOfAllTriads(t *testing.T) {
	for x := range kinds {
		first := must[[]int](t)(triads.Far(x, 0))
		sum := 0
		for _, count := range first {
			sum += count
		}
		if sum != must[int](t)(triads.Size(x)) || first[0] != 1 || first[len(first)-1] == 0 {
			t.Fatal(x, first)
		}
		for triad := range 2 * x.N {
			if list := must[[]int](t)(triads.Far(x, triad)); !slices.Equal(list, first) {
				t.Fatal(x, triad, list, first)
			}
		}
	}
}

func TestFarCountsWays(t *testing.T) {
	for x := range kinds {
		counts := make([]int, 32)
		for triad := range 2 * x.N {
			if way, e := triads.Way(x, x.N, triad); e == api.OK {
				counts[len(way)]++
			}
		}
		for d, count := range must[[]int](t)(triads.Far(x, x.N)) {
			if counts[d] != count {
				t.Fatal(x, d, count, counts)
			}
		}
	}
}
