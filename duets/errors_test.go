package duets_test

import (
	"math"
	"slices"
	"testing"

	"sackbut/api"
	"sackbut/duets"
)

// expect says which error a call had to give, and that an error comes with zero values only.
func expect(t *testing.T, name string, want, e api.Errno, zero bool, arguments ...any) {
	t.Helper()
	if e != want {
		t.Fatal(name, arguments, "error", e, "not", want)
	}
	if e != api.OK && !zero {
		t.Fatal(name, arguments, "a result besides the error", e)
	}
}

// errorOf returns the first error whose condition is met.
func errorOf(noArgument, none bool) api.Errno {
	switch {
	case noArgument:
		return api.ErrArg
	case none:
		return api.ErrNone
	}
	return api.OK
}

// checkGiven calls all functions of one part.
func checkGiven(t *testing.T, given []int) {
	t.Helper()
	wrong := !plainIsPart(given)
	none := !wrong && len(plainRight(given)) == 0
	count, e := duets.Count(given)
	expect(t, "Count", errorOf(wrong, false), e, count == 0, given)
	part, e := duets.First(given)
	expect(t, "First", errorOf(wrong, none), e, len(part) == 0, given)
	part, e = duets.Best(given)
	expect(t, "Best", errorOf(wrong, none), e, len(part) == 0, given)
	length, e := duets.Stuck(given)
	expect(t, "Stuck", errorOf(wrong, !none), e, length == 0, given)
}

// checkPair calls all functions of two parts, or of a part and a beginning.
func checkPair(t *testing.T, given, second []int) {
	t.Helper()
	wrong := !plainIsPart(given) || !plainIsPart(second) || len(given) != len(second)
	right := !wrong && plainIsRight(given, second)
	index, rule, e := duets.Check(given, second)
	expect(t, "Check", errorOf(wrong, right), e, index == 0 && rule == 0, given, second)
	worth, e := duets.Worth(given, second)
	expect(t, "Worth", errorOf(wrong, !right), e, worth == 0, given, second)
	lower, upper, e := duets.Swap(given, second)
	expect(t, "Swap", errorOf(wrong, wrong || !plainCanSwap(given, second)), e, len(lower) == 0 && len(upper) == 0, given, second)
	wrong = !plainIsPart(given) || !plainAreNotes(second) || len(second) >= len(given)
	notes, e := duets.Next(given, second)
	expect(t, "Next", errorOf(wrong, false), e, len(notes) == 0, given, second)
}

func TestOddParts(t *testing.T) {
	right, wrong := 0, 0
	for _, given := range oddParts {
		checkGiven(t, given)
		for _, second := range oddParts {
			// The slices that are far too long are tried with few others.
			if len(given) > 9 && len(second) > 9 {
				continue
			}
			checkPair(t, given, second)
		}
		if plainIsPart(given) {
			right++
		} else {
			wrong++
		}
	}
	if right < 15 || wrong < 15 {
		t.Error("too few parts, or others", right, wrong)
	}
}

func TestOddNotes(t *testing.T) {
	for _, note := range odd {
		for notes := 1; notes <= 9; notes++ {
			for place := range notes {
				part := slices.Repeat([]int{7}, notes)
				part[place] = note
				checkPair(t, part, slices.Repeat([]int{7}, notes))
				checkPair(t, slices.Repeat([]int{7}, notes), part)
				checkPair(t, part, nil)
				checkPair(t, slices.Repeat([]int{7}, min(notes+1, 9)), part)
				if notes < 4 || note < 0 || note > 20 {
					checkGiven(t, part)
				}
			}
		}
	}
}

func TestPartsNextToTheLimits(t *testing.T) {
	for notes := 0; notes <= 10; notes++ {
		for other := 0; other <= 10; other++ {
			checkPair(t, make([]int, notes), make([]int, other))
		}
		checkGiven(t, slices.Repeat([]int{20}, notes))
		part, e := duets.Lift(make([]int, notes), 1)
		expect(t, "Lift", errorOf(notes < 1 || notes > 8, false), e, len(part) == 0, notes)
	}
}

// A begin that is not valid is an error also where no note can follow.
func TestOddBeginnings(t *testing.T) {
	for _, begin := range [][]int{{21}, {-1}, {7, 7, 21}, {20, 20, 20, -1}, {1, math.MinInt}, {math.MaxInt, 1}} {
		notes, e := duets.Next([]int{0, 0, 0, 0, 0}, begin)
		expect(t, "Next", api.ErrArg, e, len(notes) == 0, begin)
	}
}

func TestOddLifts(t *testing.T) {
	for _, part := range oddParts {
		for _, by := range odd {
			wrong := !plainIsPart(part)
			lifted, e := duets.Lift(part, by)
			expect(t, "Lift", errorOf(wrong, !wrong && plainLift(part, by) == nil), e, len(lifted) == 0, part, by)
		}
	}
	// Sums beyond the greatest int come out small again.
	for note := range 21 {
		for _, by := range []int{math.MinInt, math.MaxInt, math.MinInt + 20, math.MaxInt - note, math.MinInt - note + 20} {
			lifted, e := duets.Lift([]int{note}, by)
			expect(t, "Lift", api.ErrNone, e, len(lifted) == 0, note, by)
		}
	}
}

// spare is what stands in the memory behind the slices of the next tests.
const spare = 77

// withSpare returns a slice with room behind it, and all of its memory.
func withSpare(notes []int) (list, all []int) {
	all = append(slices.Clone(notes), slices.Repeat([]int{spare}, 9)...)
	return all[:len(notes)], all
}

// spoil overwrites a result, and what memory is behind it.
func spoil(list []int) {
	for i := range list[:cap(list)] {
		list[:cap(list)][i] = -1
	}
}

// No argument is changed, and no result shares memory with one (Rule 4).
func TestArgumentsStay(t *testing.T) {
	for part := range fewGivens {
		right := plainRight(part)
		if len(right) == 0 {
			continue
		}
		given, allGiven := withSpare(part)
		second, allSecond := withSpare(right[scattered(len(right), len(right))])
		begin, allBegin := withSpare(second[:len(second)-1])
		keptGiven, keptSecond, keptBegin := slices.Clone(allGiven), slices.Clone(allSecond), slices.Clone(allBegin)
		check := func(name string) {
			if !slices.Equal(allGiven, keptGiven) || !slices.Equal(allSecond, keptSecond) || !slices.Equal(allBegin, keptBegin) {
				t.Fatal(name, part, allGiven, allSecond, allBegin)
			}
		}
		lower, upper, _ := duets.Swap(given, second)
		spoil(lower)
		for i, note := range upper {
			if note != given[i]+7 {
				t.Fatal("the parts of Swap share memory", given, second, upper)
			}
		}
		lifted, _ := duets.Lift(given, 1)
		for i, result := range [][]int{
			must[[]int](t)(duets.First(given)),
			must[[]int](t)(duets.Best(given)),
			must[[]int](t)(duets.Next(given, begin)),
			must[[]int](t)(duets.Lift(given, 0)),
			lifted,
			upper,
		} {
			spoil(result)
			check([]string{"First", "Best", "Next", "Lift", "Lift", "Swap"}[i])
		}
		duets.Check(given, second)
		duets.Count(given)
		duets.Worth(given, second)
		duets.Stuck(given)
		check("others")
	}
}

// A caller may change what it got, and gets the same again (Rules 2 and 4).
func TestResultsAreNew(t *testing.T) {
	given, second := []int{0, 1, 3, 2, 0}, []int{7, 6, 5, 6, 7}
	for name, call := range map[string]func() ([]int, api.Errno){
		"First": func() ([]int, api.Errno) { return duets.First(given) },
		"Best":  func() ([]int, api.Errno) { return duets.Best(given) },
		"Next":  func() ([]int, api.Errno) { return duets.Next(given, second[:1]) },
		"Lift":  func() ([]int, api.Errno) { return duets.Lift(given, 4) },
		"Swap": func() ([]int, api.Errno) {
			lower, upper, e := duets.Swap(given, second)
			both := slices.Concat(lower, upper)
			spoil(lower)
			spoil(upper)
			return both, e
		},
	} {
		first := must[[]int](t)(call())
		kept := slices.Clone(first)
		spoil(first)
		for range 20 {
			if again := must[[]int](t)(call()); !slices.Equal(again, kept) {
				t.Error(name, again, kept)
			}
		}
	}
}
