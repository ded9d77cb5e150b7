package duets_test

import (
	"slices"
	"testing"

	"sackbut/api"
	"sackbut/duets"
)

// must returns a result and fails the test unless there is no error.
func must[T any](t *testing.T) func(T, api.Errno) T {
	t.Helper()
	return func(result T, e api.Errno) T {
		t.Helper()
		if e != api.OK {
			t.Fatal("error", e)
		}
		return result
	}
}

// P7.1

// checkCheck returns the rule of Check, and 0 for a right part.
func checkCheck(t *testing.T, given, second []int) int {
	t.Helper()
	wantIndex, wantRule := plainCheck(given, second)
	want := api.OK
	if wantRule == 0 {
		want = api.ErrNone
	}
	index, rule, e := duets.Check(given, second)
	if index != wantIndex || rule != wantRule || e != want {
		t.Fatal("Check", given, second, index, rule, e, "not", wantIndex, wantRule, want)
	}
	return rule
}

func TestCheckOfAllPairsOfUpToTwoNotes(t *testing.T) {
	for notes := 1; notes <= 2; notes++ {
		for number := range power(2 * notes) {
			pair := numbered(2*notes, number)
			checkCheck(t, pair[:notes], pair[notes:])
		}
	}
}

// TestCheckOfLongerPairs takes parts that are right up to some index, and then changes a note to all others.
func TestCheckOfLongerPairs(t *testing.T) {
	var times [9]int
	for given := range fewGivens {
		lists := plainBeginnings(given)
		for length, list := range lists {
			for i := range min(len(list), 4) {
				second := make([]int, len(given))
				copy(second, list[scattered(i, len(list))])
				for j := length; j < len(second); j++ {
					second[j] = min(20, given[j]+[]int{0, 2, 4, 5, 7, 9, 11, 12, 14}[scattered(i+j, 9)])
				}
				changed := scattered(i+length, len(given))
				for note := range 21 {
					second[changed] = note
					times[checkCheck(t, given, second)]++
				}
			}
		}
	}
	for rule, many := range times {
		if many < 300 {
			t.Error("too few parts that break the rule", rule, times)
		}
	}
}

func TestCheck(t *testing.T) {
	for _, x := range []struct {
		given, second []int
		index, rule   int
	}{
		{[]int{0, 0}, []int{0, 1}, 1, 2},
		{[]int{5}, []int{4}, 0, 1},
		{[]int{7}, []int{0}, 0, 1}, // below, though open
		{[]int{0}, []int{15}, 0, 1},
		{[]int{0}, []int{18}, 0, 1}, // above, though open
		{[]int{20}, []int{0}, 0, 1},
		{[]int{0, 20}, []int{0, 0}, 1, 1},
		{[]int{0, 5, 0}, []int{0, 3, 0}, 1, 1},
		{[]int{5, 4, 0}, []int{4, 20, 1}, 0, 1}, // the first index
		{[]int{0}, []int{1}, 0, 2},
		{[]int{0}, []int{3}, 0, 2},
		{[]int{0}, []int{6}, 0, 2},
		{[]int{0}, []int{8}, 0, 2},
		{[]int{0}, []int{10}, 0, 2},
		{[]int{0}, []int{13}, 0, 2},
		{[]int{0}, []int{2}, 0, 3},
		{[]int{0}, []int{5}, 0, 3},
		{[]int{0}, []int{9}, 0, 3},
		{[]int{0}, []int{12}, 0, 3},
		{[]int{0}, []int{4}, 0, 3}, // the first one, but the last one, too
		{[]int{0}, []int{11}, 0, 3},
		{[]int{0, 0}, []int{2, 0}, 0, 3},
		{[]int{0, 0}, []int{5, 7}, 0, 3},
		{[]int{0, 0}, []int{7, 4}, 1, 3},
		{[]int{0, 0}, []int{0, 2}, 1, 3},
		{[]int{0, 0}, []int{14, 11}, 1, 3},
		{[]int{0, 5, 5}, []int{0, 5, 5}, 1, 4},
		{[]int{0, 6, 6}, []int{0, 6, 6}, 1, 4},
		{[]int{4, 0, 0}, []int{4, 12, 12}, 1, 4}, // by 8
		{[]int{4, 4, 4}, []int{18, 4, 4}, 1, 4},  // by 14
		{[]int{0, 7}, []int{0, 7}, 1, 5},         // by 7
		{[]int{0, 1}, []int{0, 1}, 1, 5},         // unisons
		{[]int{0, 1}, []int{7, 8}, 1, 5},
		{[]int{0, 1, 0}, []int{4, 5, 7}, 1, 5}, // fifths
		{[]int{0, 0}, []int{0, 7}, 1, 5},       // a unison, then an octave
		{[]int{0, 1}, []int{4, 8}, 1, 6},
		{[]int{5, 0}, []int{9, 7}, 1, 6}, // down by a skip
		{[]int{0, 4}, []int{4, 11}, 1, 6},
		{[]int{0, 0, 0, 0}, []int{4, 7, 9, 7}, 2, 7}, // up, and up
		{[]int{0, 0, 0, 0}, []int{4, 7, 7, 7}, 2, 7}, // up, and stays
		{[]int{0, 0, 0, 0}, []int{4, 7, 4, 7}, 2, 7}, // up, and down by a leap
		{[]int{0, 0, 0, 0}, []int{7, 4, 2, 0}, 2, 7}, // down, and down
		{[]int{0, 0, 0}, []int{7, 4, 7}, 2, 7},       // down, and up by a leap
		{[]int{4, 0, 0}, []int{4, 11, 7}, 2, 7},      // by 7
		{[]int{0, 0, 0}, []int{7, 7, 7}, 2, 8},
		{[]int{0, 2, 0}, []int{7, 7, 7}, 2, 8},
		{[]int{0, 2, 0, 0}, []int{7, 7, 7, 7}, 2, 8},
		{[]int{0, 0, 0, 0}, []int{5, 5, 5, 5}, 0, 3}, // the first index, not the least rule
		{[]int{0, 0}, []int{9, 15}, 0, 3},
	} {
		index, rule, e := duets.Check(x.given, x.second)
		if index != x.index || rule != x.rule || e != api.OK {
			t.Error(x, index, rule, e)
		}
	}
}

// rightPairs are parts with right second parts, and the worth of these.
var rightPairs = []struct {
	given, second []int
	worth         int
}{
	{[]int{5}, []int{5}, 0},
	{[]int{5}, []int{12}, 0},
	{[]int{5}, []int{19}, 0},
	{[]int{0, 1, 0}, []int{7, 6, 7}, 8},
	{[]int{0, 0}, []int{7, 7}, -1},
	{[]int{0, 7}, []int{7, 7}, -1}, // an octave, then a unison
	{[]int{7, 0}, []int{7, 7}, -1},
	{[]int{0, 7}, []int{14, 14}, -1},
	{[]int{0, 4}, []int{4, 4}, -1},
	{[]int{0, 4}, []int{11, 11}, -1},
	{[]int{0, 5}, []int{4, 5}, 1},                 // both up to an open one, by a step
	{[]int{5, 1}, []int{9, 8}, 1},                 // and down
	{[]int{3, 2}, []int{7, 9}, 3},                 // apart, by a skip
	{[]int{3, 3}, []int{7, 10}, 0},                // a leap while the given part rests
	{[]int{4, 0, 2}, []int{4, 11, 9}, 6},          // up by 7
	{[]int{0, 0, 0, 0}, []int{4, 7, 5, 7}, 0},     // after a leap, back by a skip
	{[]int{0, 0, 2, 0}, []int{4, 7, 6, 7}, 2 + 6}, // after a leap, back by a step
	{[]int{0, 0, 0, 0}, []int{7, 7, 5, 7}, -1},
	{[]int{0, 1, 0, 0}, []int{7, 6, 7, 7}, 7},
}

func TestCheckAndWorthOfRightParts(t *testing.T) {
	for _, x := range rightPairs {
		if index, rule, e := duets.Check(x.given, x.second); index != 0 || rule != 0 || e != api.ErrNone {
			t.Error(x, index, rule, e)
		}
		if worth, e := duets.Worth(x.given, x.second); worth != x.worth || e != api.OK {
			t.Error(x, worth, e)
		}
	}
}

// P7.2, P7.3 and Stuck of P7.4

func TestFunctionsOfGivens(t *testing.T) {
	var stuck [9]int
	later := 0
	for given := range someGivens {
		right := plainRight(given)
		if count, e := duets.Count(given); count != len(right) || e != api.OK {
			t.Fatal("Count", given, count, e)
		}
		first, e := duets.First(given)
		best, f := duets.Best(given)
		length, g := duets.Stuck(given)
		if len(right) == 0 {
			if len(first) > 0 || e != api.ErrNone {
				t.Fatal("First", given, first, e)
			}
			if len(best) > 0 || f != api.ErrNone {
				t.Fatal("Best", given, best, f)
			}
			if length != plainStuck(given) || g != api.OK {
				t.Fatal("Stuck", given, length, g)
			}
			stuck[length]++
			continue
		}
		if !slices.Equal(first, right[0]) || e != api.OK {
			t.Fatal("First", given, first, e)
		}
		if want := plainBest(given, right); !slices.Equal(best, want) || f != api.OK {
			t.Fatal("Best", given, best, f, want)
		}
		if length != 0 || g != api.ErrNone {
			t.Fatal("Stuck", given, length, g)
		}
		if !slices.Equal(first, best) {
			later++
		}
	}
	if slices.Min(stuck[1:8]) < 3 || later < 500 {
		t.Error("too few parts that end before their end, or with a best part that is not the first one", stuck, later)
	}
}

func TestFunctionsOfGiven(t *testing.T) {
	for _, x := range []struct {
		given       []int
		count       int
		first, best []int
	}{
		{[]int{5}, 3, []int{5}, []int{5}},
		{[]int{6}, 3, []int{6}, []int{6}},
		{[]int{7}, 2, []int{7}, []int{7}},
		{[]int{13}, 2, []int{13}, []int{13}},
		{[]int{14}, 1, []int{14}, []int{14}},
		{[]int{20}, 1, []int{20}, []int{20}},
		{[]int{20, 20}, 1, []int{20, 20}, []int{20, 20}},
		{[]int{20, 13}, 1, []int{20, 20}, []int{20, 20}},
		// 4 to 0 and to 7, 11 to 7 and to 14, and the rests on 0, 7 and 14.
		{[]int{0, 0}, 7, []int{0, 0}, []int{4, 0}},
	} {
		if count, e := duets.Count(x.given); count != x.count || e != api.OK {
			t.Error("Count", x, count, e)
		}
		if first, e := duets.First(x.given); !slices.Equal(first, x.first) || e != api.OK {
			t.Error("First", x, first, e)
		}
		if best, e := duets.Best(x.given); !slices.Equal(best, x.best) || e != api.OK {
			t.Error("Best", x, best, e)
		}
		if length, e := duets.Stuck(x.given); length != 0 || e != api.ErrNone {
			t.Error("Stuck", x, length, e)
		}
	}
}

func TestStuck(t *testing.T) {
	for _, x := range []struct {
		given []int
		want  int
	}{
		{[]int{20, 0}, 1}, // 20, from which 14 is too far
		{[]int{0, 20}, 1},
		{[]int{20, 20, 20}, 2}, // three times 20
		{[]int{20, 20, 20, 20, 20, 20, 20, 20}, 2},
		{[]int{20, 18}, 1}, // 20 may not stay, and 18 is the same interval
		{[]int{20, 18, 20}, 2},
	} {
		if length, e := duets.Stuck(x.given); length != x.want || e != api.OK {
			t.Error("Stuck", x, length, e)
		}
		if count, e := duets.Count(x.given); count != 0 || e != api.OK {
			t.Error("Count", x, count, e)
		}
		if first, e := duets.First(x.given); len(first) > 0 || e != api.ErrNone {
			t.Error("First", x, first, e)
		}
		if best, e := duets.Best(x.given); len(best) > 0 || e != api.ErrNone {
			t.Error("Best", x, best, e)
		}
	}
}

// Worth of all right parts, and of parts that are none.

func TestWorthOfParts(t *testing.T) {
	worths := map[int]int{}
	for given := range fewGivens {
		right := plainRight(given)
		for i := range min(len(right), 40) {
			second := slices.Clone(right[scattered(i, len(right))])
			worth, e := duets.Worth(given, second)
			if worth != plainWorth(given, second) || e != api.OK {
				t.Fatal(given, second, worth, e)
			}
			worths[worth]++
			second[scattered(i, len(second))] = scattered(i, 21)
			want := api.OK
			if !plainIsRight(given, second) {
				want = api.ErrNone
			}
			if worth, e := duets.Worth(given, second); e != want || e != api.OK && worth != 0 {
				t.Fatal(given, second, worth, e)
			}
		}
	}
	if len(worths) < 20 {
		t.Error("too few worths", worths)
	}
}

// P7.4

func TestNextOfBeginnings(t *testing.T) {
	ends, goesOn := 0, 0
	for given := range fewGivens {
		for _, list := range plainBeginnings(given)[:len(given)] {
			for i := range min(len(list), 5) {
				begin := list[scattered(i, len(list))]
				want := plainNext(given, begin)
				if notes, e := duets.Next(given, begin); !slices.Equal(notes, want) || e != api.OK {
					t.Fatal(given, begin, notes, e, want)
				}
				if len(want) > 0 {
					goesOn++
				} else {
					ends++
				}
				if len(begin) == 0 {
					continue
				}
				begin = slices.Clone(begin)
				begin[scattered(i, len(begin))] = scattered(i, 21)
				want = plainNext(given, begin)
				if notes, e := duets.Next(given, begin); !slices.Equal(notes, want) || e != api.OK {
					t.Fatal(given, begin, notes, e, want)
				}
			}
		}
	}
	if ends < 300 || goesOn < 3000 {
		t.Error("too few beginnings that end, or go on", ends, goesOn)
	}
}

func TestNext(t *testing.T) {
	for _, x := range []struct {
		given, begin, want []int
	}{
		{[]int{5}, nil, []int{5, 12, 19}},
		{[]int{7}, []int{}, []int{7, 14}},
		{[]int{0, 0}, nil, []int{0, 4, 7, 11, 14}}, // 4 and 11, because it is not the last index
		{[]int{0, 0}, []int{4}, []int{0, 7}},
		{[]int{0, 0}, []int{7}, []int{7}},
		{[]int{0, 0}, []int{2}, nil}, // breaks rule 3
		{[]int{0, 0}, []int{1}, nil},
		{[]int{0, 0}, []int{20}, nil},
		{[]int{0, 0, 0}, []int{4}, []int{0, 2, 4, 5, 7}}, // not yet the last index
		{[]int{0, 0, 0}, []int{4, 4}, []int{0, 7}},
		{[]int{0, 0, 0}, []int{4, 2}, []int{0}},
		{[]int{0, 0, 0}, []int{7, 7}, nil}, // three times 7
		{[]int{0, 0, 0}, []int{0, 7}, nil}, // breaks rule 5
		{[]int{0, 0, 0, 0}, []int{0, 1, 0}, nil},
		{[]int{0, 0, 0, 0}, []int{2, 4, 2}, nil},
		{[]int{20, 20, 20}, []int{20}, []int{20}},
		{[]int{20, 20, 20}, []int{20, 20}, nil},
		{[]int{0, 0, 0, 0, 0, 0, 0, 0}, []int{7, 7, 5, 7, 7, 5, 5}, []int{7}},
	} {
		if notes, e := duets.Next(x.given, x.begin); !slices.Equal(notes, x.want) || e != api.OK {
			t.Error(x, notes, e)
		}
	}
}

// P7.5

func TestLiftOfParts(t *testing.T) {
	lifted := 0
	for given := range fewGivens {
		for by := -23; by <= 23; by++ {
			part, e := duets.Lift(given, by)
			want := plainLift(given, by)
			if want == nil && (len(part) > 0 || e != api.ErrNone) || want != nil && (!slices.Equal(part, want) || e != api.OK) {
				t.Fatal(given, by, part, e, want)
			}
			if want != nil {
				lifted++
			}
		}
	}
	if lifted < 3000 {
		t.Error("too few parts that can be lifted", lifted)
	}
}

func TestLift(t *testing.T) {
	for _, x := range []struct {
		part []int
		by   int
		want []int
	}{
		{[]int{0, 1, 0}, 0, []int{0, 1, 0}},
		{[]int{0, 1, 0}, 7, []int{7, 8, 7}},
		{[]int{0, 1, 0}, 19, []int{19, 20, 19}},
		{[]int{0, 1, 0}, 20, nil},
		{[]int{0, 1, 0}, -1, nil},
		{[]int{2, 1}, -1, []int{1, 0}},
		{[]int{2, 1}, -2, nil},
		{[]int{0}, 20, []int{20}},
		{[]int{0}, 21, nil},
		{[]int{20}, -20, []int{0}},
		{[]int{20}, -21, nil},
		{[]int{0, 20}, 0, []int{0, 20}},
		{[]int{0, 20}, 1, nil},
		{[]int{20, 0}, -1, nil},
	} {
		want := api.OK
		if x.want == nil {
			want = api.ErrNone
		}
		if part, e := duets.Lift(x.part, x.by); !slices.Equal(part, x.want) || e != want {
			t.Error(x, part, e)
		}
	}
}

// P7.6

func TestSwapOfParts(t *testing.T) {
	swapped, others := 0, 0
	for given := range fewGivens {
		right := plainRight(given)
		for i := range min(len(right), 30) {
			second := slices.Clone(right[scattered(i, len(right))])
			if i%4 == 3 {
				second[scattered(i, len(second))] = scattered(i, 21)
			}
			lower, upper, e := duets.Swap(given, second)
			if !plainCanSwap(given, second) {
				if len(lower) > 0 || len(upper) > 0 || e != api.ErrNone {
					t.Fatal(given, second, lower, upper, e)
				}
				others++
				continue
			}
			if !slices.Equal(lower, second) || !slices.Equal(upper, plainLift(given, 7)) || e != api.OK {
				t.Fatal(given, second, lower, upper, e)
			}
			swapped++
		}
	}
	if swapped < 1000 || others < 1000 {
		t.Error("too few parts that can be swapped, or not", swapped, others)
	}
}

func TestSwap(t *testing.T) {
	for _, x := range []struct {
		given, second, upper []int
	}{
		{[]int{5}, []int{5}, []int{12}},
		{[]int{5}, []int{12}, []int{12}},
		{[]int{5}, []int{19}, nil}, // an interval of 14
		{[]int{5}, []int{9}, nil},  // not right
		{[]int{13}, []int{13}, []int{20}},
		{[]int{13}, []int{20}, []int{20}},
		{[]int{14}, []int{14}, nil}, // 21 is no note
		{[]int{0, 1, 0}, []int{7, 6, 7}, []int{7, 8, 7}},
		{[]int{0, 0}, []int{4, 0}, []int{7, 7}},
		{[]int{0, 0}, []int{11, 7}, nil}, // an interval of 11
		{[]int{0, 0}, []int{0, 1}, nil},  // not right
		{[]int{3, 2}, []int{7, 9}, []int{10, 9}},
		{[]int{13, 14}, []int{17, 14}, nil},
		{[]int{4, 0, 2}, []int{4, 11, 9}, nil},
	} {
		want, lower := api.OK, x.second
		if x.upper == nil {
			want, lower = api.ErrNone, nil
		}
		gotLower, gotUpper, e := duets.Swap(x.given, x.second)
		if !slices.Equal(gotLower, lower) || !slices.Equal(gotUpper, x.upper) || e != want {
			t.Error(x, gotLower, gotUpper, e)
		}
	}
}
