package triads_test

import (
	"math"
	"slices"
	"strings"
	"testing"

	"sackbut/api"
	"sackbut/triads"
)

// must returns a result and fails the test unless there is no error.
func must[T any](t *testing.T) func(T, api.Errno) T {
	t.Helper()
	return func(result T, e api.Errno) T {
		t.Helper()
		if e != api.OK {
			t.Fatal("error", e)
		}
		return result
	}
}

// P4.1

func TestTonesAndFindOfAll(t *testing.T) {
	for x := range kinds {
		for triad := range 2 * x.N {
			set, e := triads.Tones(x, triad)
			if set != plainTones(x, triad) || e != api.OK {
				t.Fatal(x, triad, set, e)
			}
			if found, e := triads.Find(x, set); found != triad || e != api.OK {
				t.Fatal(x, triad, set, found, e)
			}
		}
	}
}

func TestTones(t *testing.T) {
	for _, x := range []struct {
		kind        triads.Kind
		triad, want int
	}{
		{twelve, 0, setOf(0, 4, 7)},
		{twelve, 5, setOf(5, 9, 0)},
		{twelve, 11, setOf(11, 3, 6)},
		{twelve, 12, setOf(0, 8, 5)},
		{twelve, 16, setOf(4, 0, 9)},
		{twelve, 19, setOf(7, 3, 0)},
		{twelve, 23, setOf(11, 7, 4)},
		{triads.Kind{N: 6, A: 1, B: 3}, 0, setOf(0, 1, 3)},
		{triads.Kind{N: 6, A: 1, B: 3}, 6, setOf(0, 5, 3)},
		{triads.Kind{N: 16, A: 10, B: 15}, 1, setOf(1, 11, 0)},
		{triads.Kind{N: 16, A: 10, B: 15}, 31, setOf(15, 5, 0)},
	} {
		if set, e := triads.Tones(x.kind, x.triad); set != x.want || e != api.OK {
			t.Error(x, set, e)
		}
	}
}

func TestFindOfAllSets(t *testing.T) {
	for x := range kinds {
		step := 1
		if x.N > 9 {
			step = 1<<x.N/511 | 1
		}
		for set := 0; set < 1<<x.N; set += step {
			found, e := triads.Find(x, set)
			want := plainFind(x, set)
			if want < 0 && (found != 0 || e != api.ErrNone) || want >= 0 && (found != want || e != api.OK) {
				t.Fatal(x, set, found, e, "not", want)
			}
		}
	}
}

func TestFindNone(t *testing.T) {
	for _, set := range []int{0, 1, setOf(0, 4), setOf(0, 7), setOf(0, 4, 8), setOf(0, 2, 7), setOf(0, 4, 7, 10), setOf(0, 3, 4, 7), 1<<12 - 1, 1 << 11} {
		if found, e := triads.Find(twelve, set); found != 0 || e != api.ErrNone {
			t.Error(set, found, e)
		}
	}
}

// P4.2

func TestWalkOfAll(t *testing.T) {
	for x := range kinds {
		for triad := range 2 * x.N {
			for _, walk := range someWalks {
				if to, e := triads.Walk(x, triad, walk); to != plainWalk(x, triad, walk) || e != api.OK {
					t.Fatal(x, triad, walk, to, e)
				}
			}
		}
	}
}

func TestWalk(t *testing.T) {
	for _, x := range []struct {
		kind  triads.Kind
		triad int
		walk  string
		want  int
	}{
		{twelve, 0, "", 0},
		{twelve, 23, "", 23},
		{twelve, 0, "P", 19},
		{twelve, 0, "L", 23},
		{twelve, 0, "R", 16},
		{twelve, 19, "P", 0},
		{twelve, 23, "L", 0},
		{twelve, 16, "R", 0},
		{twelve, 0, "PL", 8}, // the first step comes first: 19, and 8 from there
		{twelve, 0, "LP", 4},
		{twelve, 12, "P", 5},
		{twelve, 12, "L", 1},
		{twelve, 12, "R", 8},
		{twelve, 0, strings.Repeat("LR", 12), 0},
		{twelve, 0, strings.Repeat("LR", 30), 6},
		{triads.Kind{N: 16, A: 10, B: 15}, 15, "L", 24},
		{triads.Kind{N: 16, A: 10, B: 15}, 16, "L", 7},
	} {
		if to, e := triads.Walk(x.kind, x.triad, x.walk); to != x.want || e != api.OK {
			t.Error(x, to, e)
		}
	}
}

func TestShiftOfAll(t *testing.T) {
	for x := range kinds {
		for triad := range 2 * x.N {
			for k := -x.N - 1; k <= 2*x.N+1; k++ {
				for _, turned := range []bool{false, true} {
					if to, e := triads.Shift(x, triad, k, turned); to != plainShift(x, triad, k, turned) || e != api.OK {
						t.Fatal(x, triad, k, turned, to, e)
					}
				}
			}
		}
	}
}

func TestShift(t *testing.T) {
	for _, x := range []struct {
		triad, k int
		turned   bool
		want     int
	}{
		{0, 0, false, 0},
		{0, 5, false, 5},
		{19, 5, false, 12},
		{19, -8, false, 23},
		{0, 0, true, 12},
		{0, 7, true, 19}, // 0 4 7 becomes 7 3 0
		{19, 7, true, 0},
		{4, 3, true, 23},
		{23, 3, true, 4},
		{0, math.MaxInt, false, 7}, // MaxInt is 7 modulo 12
		{11, math.MaxInt, true, 20},
		{0, math.MinInt, false, 4},
		{23, math.MinInt, true, 5},
		{23, math.MinInt, false, 15},
	} {
		if to, e := triads.Shift(twelve, x.triad, x.k, x.turned); to != x.want || e != api.OK {
			t.Error(x, to, e)
		}
	}
}

// P4.3

func TestWayOfAll(t *testing.T) {
	for x := range kinds {
		far := plainFar(x)
		step := 1
		if x.N > 12 {
			step = 5
		}
		for a := 0; a < 2*x.N; a += step {
			for b := range 2 * x.N {
				walk, e := triads.Way(x, a, b)
				if far[a][b] == 99 {
					if walk != "" || e != api.ErrNone {
						t.Fatal(x, a, b, walk, e)
					}
				} else if walk != plainWay(x, far, a, b) || e != api.OK {
					t.Fatal(x, a, b, walk, e)
				}
			}
		}
	}
}

func TestWay(t *testing.T) {
	for _, x := range []struct {
		kind triads.Kind
		a, b int
		want string
		e    api.Errno
	}{
		{twelve, 0, 19, "P", api.OK},
		{twelve, 0, 0, "", api.OK},
		{twelve, 23, 23, "", api.OK},
		{twelve, 0, 23, "L", api.OK},
		{twelve, 0, 16, "R", api.OK},
		{twelve, 0, 8, "PL", api.OK},
		{twelve, 0, 4, "LP", api.OK},
		{twelve, 0, 12, "PLR", api.OK}, // and RLP
		{triads.Kind{N: 14, A: 2, B: 6}, 0, 1, "", api.ErrNone},
		{triads.Kind{N: 14, A: 2, B: 6}, 0, 15, "", api.ErrNone},
		{triads.Kind{N: 14, A: 2, B: 6}, 0, 14, "LRL", api.OK}, // and PLR
	} {
		if walk, e := triads.Way(x.kind, x.a, x.b); walk != x.want || e != x.e {
			t.Error(x, walk, e)
		}
	}
}

// P4.4

func TestAlikeOfAll(t *testing.T) {
	for x := range kinds {
		effects := map[string][32]int{}
		for _, walk := range someWalks {
			effects[walk] = plainEffect(x, walk)
		}
		for _, walk := range someWalks {
			for _, other := range someWalks {
				want := effects[walk] == effects[other]
				if ok, e := triads.Alike(x, walk, other); ok != want || e != api.OK {
					t.Fatal(x, walk, other, ok, e)
				}
			}
		}
	}
}

func TestAlike(t *testing.T) {
	for _, x := range []struct {
		walk, other string
		want        bool
	}{
		{"", "", true},
		{"", "PP", true},
		{"PLPLPL", "", true},
		{"PLPL", "LP", true},
		{"PL", "LP", false}, // they lead triad 0 to different ones
		{"PLR", "RLP", true},
		{"PLR", "LPR", false},
		{"P", "L", false},
		{"P", "", false},
		{"LR", strings.Repeat("RL", 11), true},
		{"LR", strings.Repeat("LR", 25), true},
	} {
		if ok, e := triads.Alike(twelve, x.walk, x.other); ok != x.want || e != api.OK {
			t.Error(x, ok, e)
		}
	}
}

func TestOrderAndSizeOfAll(t *testing.T) {
	for x := range kinds {
		for _, walk := range someWalks {
			if k, e := triads.Order(x, walk); k != plainOrder(x, walk) || e != api.OK {
				t.Fatal(x, walk, k, e)
			}
		}
		if size, e := triads.Size(x); size != plainSize(x) || e != api.OK {
			t.Fatal(x, size, e)
		}
	}
}

func TestOrder(t *testing.T) {
	for walk, want := range map[string]int{
		"": 1, "PP": 1, "PL": 3, "PR": 4, "LR": 12, "LP": 3, "P": 2, "PLR": 2, "PLRPLR": 1, "PLPL": 3, "LRLR": 6,
		strings.Repeat("LR", 12): 1, strings.Repeat("LR", 30): 2, strings.Repeat("R", 59): 2,
	} {
		if k, e := triads.Order(twelve, walk); k != want || e != api.OK {
			t.Error(walk, k, e)
		}
	}
}

func TestSize(t *testing.T) {
	for x, want := range map[triads.Kind]int{
		twelve:               24,
		{N: 6, A: 1, B: 3}:   12,
		{N: 14, A: 2, B: 6}:  14,
		{N: 12, A: 2, B: 6}:  12,
		{N: 16, A: 4, B: 14}: 16,
		{N: 16, A: 1, B: 3}:  32,
	} {
		if size, e := triads.Size(x); size != want || e != api.OK {
			t.Error(x, size, e)
		}
	}
}

// P4.5

func TestRoundOfAll(t *testing.T) {
	for x := range kinds {
		step := 1
		if x.N > 9 {
			step = 5
		}
		for triad := 0; triad < 2*x.N; triad += step {
			for _, steps := range plainSteps {
				if list, e := triads.Round(x, triad, steps); !slices.Equal(list, plainRound(x, triad, steps)) || e != api.OK {
					t.Fatal(x, triad, steps, list, e)
				}
			}
		}
	}
}

func TestRound(t *testing.T) {
	for _, x := range []struct {
		triad int
		steps string
		want  []int
	}{
		{0, "P", []int{0, 19}},
		{19, "P", []int{0, 19}},
		{0, "L", []int{0, 23}},
		{0, "R", []int{0, 16}},
		{0, "PL", []int{0, 4, 8, 15, 19, 23}},
		{0, "LP", []int{0, 4, 8, 15, 19, 23}},
		{23, "PL", []int{0, 4, 8, 15, 19, 23}},
		{0, "PR", []int{0, 3, 6, 9, 13, 16, 19, 22}},
	} {
		if list, e := triads.Round(twelve, x.triad, x.steps); !slices.Equal(list, x.want) || e != api.OK {
			t.Error(x, list, e)
		}
	}
}

// P4.6

func TestTourOfAll(t *testing.T) {
	for x := range kinds {
		for _, walk := range append(tourWalks(x), someWalks...) {
			if ok, e := triads.Tour(x, walk); ok != plainTour(x, walk) || e != api.OK {
				t.Fatal(x, walk, ok, e)
			}
		}
	}
}

// tourWalks returns walks of which some are tours: rounds by two steps, rounds that are left with the third step before they close, and both written out beyond their ends.
func tourWalks(x triads.Kind) []string {
	var list []string
	for _, two := range []string{"PL", "LP", "PR", "RP", "LR", "RL"} {
		long := strings.Repeat(two, 30)
		list = append(list, long[:2*x.N-1], long[:2*x.N], long[:2*x.N+1], long[:2*x.N+2])
		for length := 1; length < 2*x.N; length++ {
			for _, letter := range []string{"P", "L", "R"} {
				walk := long[:length] + letter
				list = append(list, walk, (walk + walk + walk + walk)[:min(4*len(walk), 60)])
			}
		}
	}
	return list
}

func TestTour(t *testing.T) {
	six := triads.Kind{N: 6, A: 1, B: 3}
	for _, x := range []struct {
		kind triads.Kind
		walk string
		want bool
	}{
		{twelve, "LR", true},
		{twelve, "RL", true},
		{twelve, "PL", false},
		{twelve, "PR", false},
		{twelve, "PLR", false},
		{twelve, "", false},
		{twelve, "P", false},
		{twelve, strings.Repeat("LR", 6), true},             // ends before it comes back
		{twelve, strings.Repeat("LR", 6) + "L", false},      // leads back to where it was
		{twelve, strings.Repeat("LR", 11) + "L", false},     // comes to all, but does not come back
		{twelve, strings.Repeat("LR", 12), true},            // ends when it comes back
		{twelve, strings.Repeat("LR", 12) + "PPPLPR", true}, // ends behind it
		{twelve, strings.Repeat("LR", 30), true},
		{twelve, strings.Repeat("LR", 11) + "LP" + "LR", false},
		{six, "PL", true},
		{six, "LR", false},
		{triads.Kind{N: 14, A: 2, B: 6}, "LR", false}, // comes to all that can be reached
	} {
		if ok, e := triads.Tour(x.kind, x.walk); ok != x.want || e != api.OK {
			t.Error(x, ok, e)
		}
	}
}

func TestToursOfAll(t *testing.T) {
	none := 0
	for x := range kinds {
		walk, e := triads.Tours(x)
		want := ""
		if x.N <= 12 {
			want = plainTours(x)
		}
		switch {
		case x.N > 12:
			if walk != "" || e != api.ErrArg {
				t.Fatal(x, walk, e)
			}
		case want == "":
			none++
			if walk != "" || e != api.ErrNone {
				t.Fatal(x, walk, e)
			}
		case walk != want || e != api.OK:
			t.Fatal(x, walk, e, "not", want)
		}
	}
	if none == 0 {
		t.Error("no Kind without a tour")
	}
}

// P4.7

func TestFarOfAll(t *testing.T) {
	for x := range kinds {
		far := plainFar(x)
		for triad := range 2 * x.N {
			counts := make([]int, 100)
			for _, d := range far[triad] {
				counts[d]++
			}
			counts[99] = 0
			for counts[len(counts)-1] == 0 {
				counts = counts[:len(counts)-1]
			}
			if list, e := triads.Far(x, triad); !slices.Equal(list, counts) || e != api.OK {
				t.Fatal(x, triad, list, e, "not", counts)
			}
		}
	}
}

func TestFar(t *testing.T) {
	for x, want := range map[triads.Kind][]int{
		twelve:              {1, 3, 6, 8, 5, 1},
		{N: 14, A: 2, B: 6}: {1, 3, 6, 4},
	} {
		if list, e := triads.Far(x, 0); !slices.Equal(list, want) || e != api.OK {
			t.Error(x, list, e)
		}
	}
}
