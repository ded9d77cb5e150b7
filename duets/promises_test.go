package duets_test

import (
	"slices"
	"testing"

	"sackbut/api"
	"sackbut/duets"
)

// throughNext returns all parts that Next builds, one note after the other.
func throughNext(t *testing.T, given, begin []int) [][]int {
	t.Helper()
	if len(begin) == len(given) {
		return [][]int{slices.Clone(begin)}
	}
	var list [][]int
	last := -1
	for _, note := range must[[]int](t)(duets.Next(given, begin)) {
		if note <= last {
			t.Fatal("not rising", given, begin)
		}
		last = note
		list = append(list, throughNext(t, given, slices.Concat(begin, []int{note}))...)
	}
	return list
}

// P7.7

func TestPartsThroughNext(t *testing.T) {
	none := 0
	for given := range fewGivens {
		list := throughNext(t, given, nil)
		for i, second := range list {
			if _, _, e := duets.Check(given, second); e != api.ErrNone {
				t.Fatal("not right", given, second, e)
			}
			if i > 0 && slices.Compare(list[i-1], second) >= 0 {
				t.Fatal("not in order", given, second)
			}
		}
		if count := must[int](t)(duets.Count(given)); count != len(list) {
			t.Fatal("Count", given, count, len(list))
		}
		first, e := duets.First(given)
		best, f := duets.Best(given)
		_, g := duets.Stuck(given)
		if len(list) == 0 {
			none++
			if e != api.ErrNone || f != api.ErrNone || g != api.OK {
				t.Fatal(given, e, f, g)
			}
			continue
		}
		if e != api.OK || f != api.OK || g != api.ErrNone {
			t.Fatal(given, e, f, g)
		}
		if !slices.Equal(first, list[0]) {
			t.Fatal("First", given, first)
		}
		if _, _, e := duets.Check(given, best); e != api.ErrNone {
			t.Fatal("Best", given, best, e)
		}
	}
	if none < 50 {
		t.Error("too few parts without a right second part", none)
	}
}

// All right parts of two notes are built through Next, not only those that the plain functions find.
func TestRightPartsOfTwoNotes(t *testing.T) {
	for number := range power(2) {
		given := numbered(2, number)
		var right [][]int
		for high := range 21 {
			for low := range 21 {
				if _, _, e := duets.Check(given, []int{high, low}); e == api.ErrNone {
					right = append(right, []int{high, low})
				}
			}
		}
		if list := throughNext(t, given, nil); !slices.EqualFunc(list, right, slices.Equal) {
			t.Fatal(given, list, right)
		}
	}
}

// P7.8

func TestLiftedParts(t *testing.T) {
	lifted, faults := 0, 0
	check := func(given, second []int) {
		index, rule, e := duets.Check(given, second)
		worth, f := duets.Worth(given, second)
		for by := -20; by <= 20; by++ {
			givenUp, g := duets.Lift(given, by)
			secondUp, h := duets.Lift(second, by)
			if g != api.OK || h != api.OK {
				continue
			}
			lifted++
			if otherIndex, otherRule, other := duets.Check(givenUp, secondUp); otherIndex != index || otherRule != rule || other != e {
				t.Fatal("Check", given, second, by, otherIndex, otherRule, other)
			}
			if otherWorth, other := duets.Worth(givenUp, secondUp); otherWorth != worth || other != f {
				t.Fatal("Worth", given, second, by, otherWorth, other)
			}
		}
		if e == api.OK {
			faults++
		}
	}
	for given := range fewGivens {
		right := plainRight(given)
		for i := range min(len(right), 6) {
			second := slices.Clone(right[scattered(i, len(right))])
			check(given, second)
			second[scattered(i, len(second))] = scattered(i+len(right), 21)
			check(given, second)
		}
		check(given, numbered(len(given), scattered(given[0], power(len(given)))))
	}
	if lifted < 10000 || faults < 1000 {
		t.Error("too few lifted parts, or parts that are not right", lifted, faults)
	}
}

// P7.9

func TestWorthOfBest(t *testing.T) {
	greater := 0
	for given := range fewGivens {
		best, e := duets.Best(given)
		if e != api.OK {
			continue
		}
		most := must[int](t)(duets.Worth(given, best))
		first := must[int](t)(duets.Worth(given, must[[]int](t)(duets.First(given))))
		if most < first {
			t.Fatal(given, most, first)
		}
		if most > first {
			greater++
		}
		for _, second := range plainRight(given) {
			worth := must[int](t)(duets.Worth(given, second))
			if worth > most || worth == most && slices.Compare(second, best) < 0 {
				t.Fatal(given, best, most, second, worth)
			}
		}
	}
	if greater < 200 {
		t.Error("too few parts of which the first second part is not the best", greater)
	}
}

// P7.10

func TestGivenPartOfOneNote(t *testing.T) {
	for note := range 21 {
		var want []int
		for _, high := range []int{note, note + 7, note + 14} {
			if high <= 20 {
				want = append(want, high)
			}
		}
		given := []int{note}
		if notes := must[[]int](t)(duets.Next(given, nil)); !slices.Equal(notes, want) {
			t.Error(note, notes)
		}
		if count := must[int](t)(duets.Count(given)); count != len(want) {
			t.Error(note, count)
		}
		if first := must[[]int](t)(duets.First(given)); !slices.Equal(first, given) {
			t.Error(note, first)
		}
		for high := range 21 {
			right := slices.Contains(want, high)
			if _, _, e := duets.Check(given, []int{high}); (e == api.ErrNone) != right {
				t.Error(note, high, e)
			}
		}
	}
}

// P7.11

func TestSwappedParts(t *testing.T) {
	swapped := 0
	for given := range fewGivens {
		right := plainRight(given)
		for i := range min(len(right), 50) {
			second := right[scattered(i, len(right))]
			lower, upper, e := duets.Swap(given, second)
			if e != api.OK {
				continue
			}
			swapped++
			for j, note := range given {
				if upper[j]-lower[j] != 7-(second[j]-note) {
					t.Fatal(given, second, lower, upper)
				}
			}
		}
	}
	if swapped < 1000 {
		t.Error("too few swapped parts", swapped)
	}
}
