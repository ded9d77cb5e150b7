package voices_test

import (
	"slices"
	"testing"

	"sackbut/api"
	"sackbut/voices"
)

// must returns a result and fails the test unless there is no error.
func must[T any](t *testing.T) func(T, api.Errno) T {
	t.Helper()
	return func(result T, e api.Errno) T {
		t.Helper()
		if e != api.OK {
			t.Fatal("error", e)
		}
		return result
	}
}

// equal compares lists of voicings.
func equal(a, b [][]int) bool {
	return slices.EqualFunc(a, b, slices.Equal)
}

// P6.1

func TestCostAndLeadOfPairs(t *testing.T) {
	for p := range somePairs {
		if cost, e := voices.Cost(p.n, p.a, p.b); cost != plainCost(p.n, p.a, p.b) || e != api.OK {
			t.Fatal("Cost", p, cost, e)
		}
		if lead, e := voices.Lead(p.n, p.a, p.b); !slices.Equal(lead, plainLead(p.n, p.a, p.b)) || e != api.OK {
			t.Fatal("Lead", p, lead, e)
		}
	}
}

func TestCostAndLead(t *testing.T) {
	for _, x := range []struct {
		pair
		cost int
		lead []int
	}{
		{pair{12, []int{0, 4, 7}, []int{0, 5, 9}}, 3, []int{0, 1, 2}},
		{pair{12, []int{0, 4, 7}, []int{11, 2, 7}}, 3, []int{0, 1, 2}},
		{pair{12, []int{0, 4, 7}, []int{7, 0, 4}}, 0, []int{1, 2, 0}},
		{pair{12, []int{0}, []int{6}}, 6, []int{0}},
		{pair{12, []int{0}, []int{7}}, 5, []int{0}},
		{pair{12, []int{11}, []int{1}}, 2, []int{0}}, // past 0
		{pair{2, []int{0}, []int{1}}, 1, []int{0}},
		{pair{3, []int{0}, []int{2}}, 1, []int{0}},
		{pair{16, []int{0}, []int{8}}, 8, []int{0}},
		{pair{12, []int{0, 2}, []int{4, 3}}, 5, []int{0, 1}}, // 4 and 1 as well as 3 and 2
		{pair{12, []int{0, 0, 0}, []int{1, 2, 3}}, 6, []int{0, 1, 2}},
		{pair{12, []int{5, 5, 5}, []int{5, 5, 5}}, 0, []int{0, 1, 2}},
		{pair{12, []int{0, 6}, []int{6, 0}}, 0, []int{1, 0}},
		{pair{12, []int{0, 4, 8}, []int{6, 10, 2}}, 6, []int{1, 2, 0}}, // all up or all down by 2
		{pair{16, []int{0, 0, 0, 0, 0, 0}, []int{8, 8, 8, 8, 8, 8}}, 48, []int{0, 1, 2, 3, 4, 5}},
		{pair{16, []int{0, 3, 6, 9, 12, 15}, []int{15, 12, 9, 6, 3, 0}}, 0, []int{5, 4, 3, 2, 1, 0}},
	} {
		if cost, e := voices.Cost(x.n, x.a, x.b); cost != x.cost || e != api.OK {
			t.Error("Cost", x, cost, e)
		}
		if lead, e := voices.Lead(x.n, x.a, x.b); !slices.Equal(lead, x.lead) || e != api.OK {
			t.Error("Lead", x, lead, e)
		}
	}
}

// P6.2

// someLeads returns all leadings of up to 4 voices, and some of more.
func someLeads(p pair) [][]int {
	all := leads[len(p.a)]
	if len(all) <= 24 {
		return all
	}
	var some [][]int
	for i := p.a[0]; i < len(all); i += 97 {
		some = append(some, all[i])
	}
	return some
}

func TestPriceAndCrossOfPairs(t *testing.T) {
	crossed, calm := 0, 0
	for p := range fewPairs {
		for _, lead := range someLeads(p) {
			if price, e := voices.Price(p.n, p.a, p.b, lead); price != plainPrice(p.n, p.a, p.b, lead) || e != api.OK {
				t.Fatal("Price", p, lead, price, e)
			}
			want := plainCross(p.n, p.a, p.b, lead)
			if ok, e := voices.Cross(p.n, p.a, p.b, lead); ok != want || e != api.OK {
				t.Fatal("Cross", p, lead, ok, e)
			}
			if want {
				crossed++
			} else {
				calm++
			}
		}
	}
	if crossed < 1000 || calm < 1000 {
		t.Error("too few leadings that cross, or do not", crossed, calm)
	}
}

func TestCrossOfAllPairsOfTwoVoices(t *testing.T) {
	for n := 2; n <= 16; n++ {
		for number := range power(n, 4) {
			tones := numbered(n, 4, number)
			want := plainCross(n, tones[:2], tones[2:], []int{0, 1})
			if ok, e := voices.Cross(n, tones[:2], tones[2:], []int{0, 1}); ok != want || e != api.OK {
				t.Fatal(n, tones, ok, e)
			}
		}
	}
}

func TestPriceAndCross(t *testing.T) {
	for _, x := range []struct {
		pair
		lead  []int
		price int
		cross bool
	}{
		{pair{12, []int{0, 4, 7}, []int{0, 5, 9}}, []int{0, 1, 2}, 3, false},
		{pair{12, []int{0, 4, 7}, []int{0, 5, 9}}, []int{0, 2, 1}, 7, true},
		{pair{12, []int{0, 4, 7}, []int{0, 5, 9}}, []int{2, 1, 0}, 9, true}, // 0 down to 9, and 7 up to 0
		{pair{12, []int{0, 1}, []int{1, 0}}, []int{0, 1}, 2, true},          // at half the time
		{pair{12, []int{0, 1}, []int{1, 1}}, []int{0, 1}, 1, false},         // only at time 1
		{pair{12, []int{0, 1}, []int{2, 1}}, []int{0, 1}, 2, true},          // past one that stands still
		{pair{12, []int{0, 1}, []int{3, 2}}, []int{0, 1}, 4, true},          // past a slower one
		{pair{12, []int{0, 1}, []int{2, 2}}, []int{0, 1}, 3, false},
		{pair{12, []int{0, 0}, []int{1, 11}}, []int{0, 1}, 2, false}, // from the same tone
		{pair{12, []int{0, 0}, []int{3, 1}}, []int{0, 1}, 4, false},
		{pair{12, []int{11, 1}, []int{1, 11}}, []int{0, 1}, 4, true},  // at 0
		{pair{12, []int{11, 0}, []int{1, 0}}, []int{0, 1}, 2, true},   // past 0
		{pair{12, []int{0, 11}, []int{11, 1}}, []int{0, 1}, 3, true},  // past 0, the other way
		{pair{12, []int{0, 3}, []int{6, 3}}, []int{0, 1}, 6, true},    // upward
		{pair{12, []int{0, 9}, []int{6, 9}}, []int{0, 1}, 6, false},   // not downward
		{pair{12, []int{6, 9}, []int{0, 9}}, []int{0, 1}, 6, true},    // upward from above, too
		{pair{12, []int{6, 3}, []int{0, 3}}, []int{0, 1}, 6, false},   // and not downward
		{pair{12, []int{0, 6}, []int{6, 0}}, []int{0, 1}, 12, false},  // both upward
		{pair{12, []int{0, 7}, []int{6, 2}}, []int{0, 1}, 11, true},   // toward each other, at 42/11
		{pair{12, []int{0, 11}, []int{6, 6}}, []int{0, 1}, 11, false}, // toward each other, until time 1
		{pair{12, []int{0, 11}, []int{6, 5}}, []int{0, 1}, 12, false}, // both upward
		{pair{13, []int{0, 12}, []int{6, 6}}, []int{0, 1}, 12, false}, // away from each other, until time 1
		{pair{13, []int{0, 12}, []int{6, 5}}, []int{0, 1}, 12, false}, // both up
		{pair{16, []int{0, 15}, []int{8, 8}}, []int{0, 1}, 15, false}, // up and down, until time 1
		{pair{2, []int{0, 1}, []int{1, 0}}, []int{0, 1}, 2, false},    // both upward
		{pair{2, []int{0, 1}, []int{0, 0}}, []int{0, 1}, 1, false},    // only at time 1
		{pair{3, []int{0, 1}, []int{1, 0}}, []int{0, 1}, 2, true},     // at half the time
		{pair{3, []int{0, 2}, []int{1, 1}}, []int{0, 1}, 2, false},    // away from each other, until time 1
		{pair{12, []int{0, 1, 5}, []int{1, 0, 5}}, []int{1, 0, 2}, 0, false},
		{pair{12, []int{5, 0, 1}, []int{5, 0, 1}}, []int{0, 2, 1}, 2, true}, // the last two of three
		{pair{12, []int{3}, []int{9}}, []int{0}, 6, false},
	} {
		if price, e := voices.Price(x.n, x.a, x.b, x.lead); price != x.price || e != api.OK {
			t.Error("Price", x, price, e)
		}
		if ok, e := voices.Cross(x.n, x.a, x.b, x.lead); ok != x.cross || e != api.OK {
			t.Error("Cross", x, ok, e)
		}
	}
}

// P6.3

func TestCalmOfPairs(t *testing.T) {
	other := 0
	for p := range somePairs {
		lead, e := voices.Calm(p.n, p.a, p.b)
		if !slices.Equal(lead, plainCalm(p.n, p.a, p.b)) || e != api.OK {
			t.Fatal(p, lead, e)
		}
		if !slices.Equal(lead, plainLead(p.n, p.a, p.b)) {
			other++
		}
	}
	if other < 1000 {
		t.Error("too few pairs of which the first leading crosses", other)
	}
}

func TestCalm(t *testing.T) {
	for _, x := range []struct {
		pair
		lead, calm []int
	}{
		{pair{12, []int{0, 4, 7}, []int{0, 5, 9}}, []int{0, 1, 2}, []int{0, 1, 2}},
		{pair{12, []int{0, 2}, []int{4, 3}}, []int{0, 1}, []int{1, 0}},
		{pair{12, []int{0, 2}, []int{3, 4}}, []int{0, 1}, []int{0, 1}},
		{pair{12, []int{0, 0}, []int{4, 3}}, []int{0, 1}, []int{0, 1}},
		{pair{12, []int{0, 1, 2}, []int{3, 2, 1}}, []int{0, 2, 1}, []int{2, 1, 0}},
		{pair{12, []int{0, 1, 2, 3}, []int{6, 5, 4, 3}}, []int{0, 1, 2, 3}, []int{3, 2, 1, 0}},
		{pair{12, []int{11, 0}, []int{2, 1}}, []int{0, 1}, []int{1, 0}},
		{pair{12, []int{5}, []int{11}}, []int{0}, []int{0}},
		{pair{12, []int{0, 3}, []int{6, 3}}, []int{0, 1}, []int{1, 0}}, // up to 6, past 3
	} {
		if lead, e := voices.Lead(x.n, x.a, x.b); !slices.Equal(lead, x.lead) || e != api.OK {
			t.Error("Lead", x, lead, e)
		}
		if calm, e := voices.Calm(x.n, x.a, x.b); !slices.Equal(calm, x.calm) || e != api.OK {
			t.Error("Calm", x, calm, e)
		}
	}
}

// P6.4

func TestPathOfPairs(t *testing.T) {
	for p := range somePairs {
		path, e := voices.Path(p.n, p.a, p.b)
		if e != api.OK || len(path) != plainCost(p.n, p.a, p.b)+1 || !plainIsPath(p.n, p.a, p.b, path) {
			t.Fatal(p, path, e)
		}
	}
}

func TestPath(t *testing.T) {
	for _, x := range []struct {
		pair
		want [][]int
	}{
		{pair{12, []int{0}, []int{2}}, [][]int{{0}, {1}, {2}}},
		{pair{12, []int{2}, []int{0}}, [][]int{{2}, {1}, {0}}},
		{pair{12, []int{1}, []int{11}}, [][]int{{1}, {0}, {11}}},
		{pair{12, []int{11}, []int{1}}, [][]int{{11}, {0}, {1}}},
		{pair{12, []int{5}, []int{5}}, [][]int{{5}}},
		{pair{2, []int{1}, []int{0}}, [][]int{{1}, {0}}},
		{pair{12, []int{0, 4, 7}, []int{4, 7, 0}}, [][]int{{0, 4, 7}}}, // the tones of b, in another order
		{pair{12, []int{7, 0, 4}, []int{0, 3, 7}}, [][]int{{7, 0, 4}, {7, 0, 3}}},
	} {
		if path, e := voices.Path(x.n, x.a, x.b); !equal(path, x.want) || e != api.OK {
			t.Error(x, path, e)
		}
	}
}

func TestIsPath(t *testing.T) {
	a, b := []int{0, 4}, []int{1, 5}
	for _, x := range []struct {
		pair
		path [][]int
		want bool
	}{
		{pair{12, a, b}, [][]int{{0, 4}, {1, 4}, {1, 5}}, true},
		{pair{12, a, b}, [][]int{{0, 4}, {0, 5}, {1, 5}}, true},
		{pair{12, a, b}, [][]int{{0, 4}, {0, 5}, {0, 4}, {0, 5}, {1, 5}}, true}, // not the shortest
		{pair{12, a, b}, [][]int{{0, 4}, {0, 3}, {1, 3}, {2, 3}, {3, 3}, {4, 3}, {4, 2}, {5, 2}, {5, 1}}, true},
		{pair{12, a, b}, [][]int{{0, 4}, {1, 5}}, false},                          // both at once
		{pair{12, a, b}, [][]int{{0, 4}, {1, 4}, {1, 4}, {1, 5}}, false},          // none
		{pair{12, a, b}, [][]int{{0, 4}, {1, 4}}, false},                          // not to the end
		{pair{12, a, b}, [][]int{{0, 4}, {1, 4}, {1, 5}, {1, 6}}, false},          // beyond the end
		{pair{12, a, b}, [][]int{{1, 4}, {1, 5}}, false},                          // not from a
		{pair{12, a, b}, [][]int{{4, 0}, {4, 1}, {5, 1}}, false},                  // from a in another order
		{pair{12, a, b}, [][]int{{0, 4}, {2, 4}, {1, 4}, {1, 5}}, false},          // by 2
		{pair{12, a, b}, [][]int{{0, 4}, {0, 5}, {1, 5, 0}, {1, 5}}, false},       // another length
		{pair{12, a, b}, [][]int{{0, 4}, {0, 5}, {1}, {1, 5}}, false},             // another length
		{pair{12, a, b}, [][]int{{0, 4}, nil, {1, 5}}, false},                     // no voicing
		{pair{12, a, b}, [][]int{{0, 4}, {-1, 4}, {0, 4}, {1, 4}, {1, 5}}, false}, // no tone
		{pair{12, a, b}, [][]int{{0, 4}, {12, 4}, {1, 4}, {1, 5}}, false},         // no tone
		{pair{12, a, b}, [][]int{{0, 4}, {1, 4}, {1, 17}}, false},                 // no tone
		{pair{12, a, b}, [][]int{{0, 4}, {1, 4}, {1, 5}, nil}, false},             // no voicing at the end
		{pair{12, a, b}, [][]int{nil, {0, 4}, {1, 4}, {1, 5}}, false},             // no voicing first
		{pair{12, a, b}, [][]int{{0, 4, 4}, {1, 4}, {1, 5}}, false},
		{pair{12, a, b}, [][]int{{0}, {1, 4}, {1, 5}}, false},
		{pair{12, a, b}, [][]int{{0, 4}, {1, 4}, {1, 5, 5}}, false},
		{pair{12, a, b}, [][]int{{0, 4}}, false},
		{pair{12, a, b}, [][]int{{1, 5}}, false},
		{pair{12, a, b}, [][]int{{}}, false},
		{pair{12, a, b}, [][]int{}, false},
		{pair{12, a, b}, nil, false},
		{pair{12, a, a}, [][]int{{0, 4}}, true},
		{pair{12, a, a}, [][]int{{0, 4}, {0, 4}}, false},
		{pair{12, a, a}, [][]int{{0, 4}, {0, 5}, {0, 4}}, true},
		{pair{12, a, []int{4, 0}}, [][]int{{0, 4}}, true},
		{pair{12, a, []int{4, 0}}, [][]int{{4, 0}}, false},
		{pair{12, a, a}, nil, false},
		{pair{12, []int{0}, []int{11}}, [][]int{{0}, {11}}, true}, // past 0
		{pair{12, []int{11}, []int{0}}, [][]int{{11}, {0}}, true},
		{pair{12, []int{0, 0}, []int{0, 1}}, [][]int{{0, 0}, {1, 0}}, true},
		{pair{12, []int{0, 1}, []int{0, 0}}, [][]int{{0, 1}, {1, 1}}, false}, // the same set, or not, but other tones
		{pair{12, []int{0, 0, 1}, []int{0, 1, 1}}, [][]int{{0, 0, 1}}, false},
		{pair{2, []int{0}, []int{1}}, [][]int{{0}, {1}}, true},
		{pair{2, []int{0}, []int{0}}, [][]int{{0}, {1}, {0}}, true},
		{pair{2, []int{0}, []int{0}}, [][]int{{0}, {0}}, false},
	} {
		if ok, e := voices.IsPath(x.n, x.a, x.b, x.path); ok != x.want || e != api.OK {
			t.Error(x, ok, e)
		}
	}
}

// TestIsPathOfSpoiltPaths changes one number of a path at a time, or takes one voicing out, or puts one in twice.
func TestIsPathOfSpoiltPaths(t *testing.T) {
	paths := 0
	check := func(p pair, path [][]int) {
		want := plainIsPath(p.n, p.a, p.b, path)
		if ok, e := voices.IsPath(p.n, p.a, p.b, path); ok != want || e != api.OK {
			t.Fatal(p, path, ok, e)
		}
		if want {
			paths++
		}
	}
	for p := range fewPairs {
		path := must[[][]int](t)(voices.Path(p.n, p.a, p.b))
		for i, tones := range path {
			check(p, slices.Concat(path[:i], path[i+1:]))
			check(p, slices.Concat(path[:i], path[i:i+1], path[i:]))
			check(p, path[:i])
			voice := scattered(i, len(tones))
			kept := tones[voice]
			for _, number := range []int{kept - 1, kept + 1, kept + 2, (kept + p.n - 1) % p.n, (kept + p.n/2) % p.n, -1, p.n} {
				tones[voice] = number
				check(p, path)
			}
			tones[voice] = kept
		}
	}
	if paths < 100 {
		t.Error("too few spoilt paths that are paths all the same", paths)
	}
}

// P6.5

func TestNearOfPairs(t *testing.T) {
	for p := range fewPairs {
		want, least := plainNear(p.n, p.a, p.b)
		if image, cost, e := voices.Near(p.n, p.a, p.b); !slices.Equal(image, want) || cost != least || e != api.OK {
			t.Fatal(p, image, cost, e)
		}
	}
}

func TestNear(t *testing.T) {
	for _, x := range []struct {
		pair
		image []int
		cost  int
	}{
		{pair{12, []int{0, 4, 7}, []int{0, 3, 7}}, []int{0, 4, 7}, 0}, // turned
		{pair{12, []int{0, 4, 7}, []int{0, 3, 6}}, []int{1, 4, 7}, 1},
		{pair{12, []int{7, 0, 4}, []int{5, 9, 2}}, []int{0, 4, 7}, 0},
		{pair{12, []int{0, 4, 8}, []int{0, 4, 7}}, []int{0, 3, 8}, 1}, // of six that cost 1
		{pair{12, []int{5}, []int{0}}, []int{5}, 0},
		{pair{12, []int{0, 6}, []int{0, 5}}, []int{0, 5}, 1},
		{pair{12, []int{0, 0}, []int{3, 4}}, []int{0, 1}, 1},  // before 0 11
		{pair{12, []int{0, 3}, []int{5, 5}}, []int{0, 0}, 3},  // all of 0 to 3 cost 3
		{pair{12, []int{2, 11}, []int{5, 5}}, []int{0, 0}, 3}, // past 0, and 0 before 11
		{pair{2, []int{0, 1}, []int{0, 0}}, []int{0, 0}, 1},
		{pair{12, []int{11, 3, 7}, []int{0, 1, 2}}, []int{0, 10, 11}, 6},
	} {
		if image, cost, e := voices.Near(x.n, x.a, x.b); !slices.Equal(image, x.image) || cost != x.cost || e != api.OK {
			t.Error(x, image, cost, e)
		}
	}
}

// P6.6

// someLists yields lists of 1 to 8 voicings of k tones.
func someLists(n, k int) func(yield func([][]int) bool) {
	return func(yield func([][]int) bool) {
		for length := 1; length <= 8; length++ {
			for i := range 6 {
				var list [][]int
				for j := range length {
					list = append(list, numbered(n, k, scattered(100*i+j, power(n, k))))
				}
				if !yield(list) {
					return
				}
			}
		}
	}
}

func TestMiddleOfLists(t *testing.T) {
	for n := 2; n <= 12; n++ {
		for k := 1; k <= 3; k++ {
			for list := range someLists(n, k) {
				if tones, e := voices.Middle(n, k, list); !slices.Equal(tones, plainMiddle(n, k, list)) || e != api.OK {
					t.Fatal(n, k, list, tones, e)
				}
			}
		}
	}
}

func TestMiddle(t *testing.T) {
	for _, x := range []struct {
		n, k int
		list [][]int
		want []int
	}{
		{12, 1, [][]int{{7}}, []int{7}},
		{12, 1, [][]int{{3}, {5}}, []int{3}},  // all of 3 to 5
		{12, 1, [][]int{{11}, {1}}, []int{0}}, // past 0
		{12, 1, [][]int{{3}, {9}}, []int{0}},  // all
		{12, 1, [][]int{{2}, {4}, {8}}, []int{4}},
		{12, 1, [][]int{{1}, {1}, {8}}, []int{1}},
		{12, 3, [][]int{{7, 0, 4}}, []int{0, 4, 7}},
		{12, 3, [][]int{{0, 4, 7}, {0, 3, 7}}, []int{0, 3, 7}},
		{12, 3, [][]int{{0, 4, 7}, {0, 3, 7}, {0, 4, 7}}, []int{0, 4, 7}},
		{12, 2, [][]int{{5, 5}, {5, 5}}, []int{5, 5}},
		{2, 1, [][]int{{1}, {1}, {0}}, []int{1}},
		{2, 3, [][]int{{1, 1, 1}, {0, 0, 0}}, []int{0, 0, 0}},
		{12, 1, [][]int{{2}, {2}, {2}, {2}, {2}, {3}, {3}, {3}}, []int{2}},
	} {
		if tones, e := voices.Middle(x.n, x.k, x.list); !slices.Equal(tones, x.want) || e != api.OK {
			t.Error(x, tones, e)
		}
	}
}

// P6.7

func TestBallOfVoicings(t *testing.T) {
	for n := 2; n <= 16; n++ {
		for k := 1; k <= 6; k++ {
			all := plainRising(n, k)
			if len(all) > 6000 && n < 16 {
				continue
			}
			voicings := power(n, k)
			for i := range min(voicings, 300/len(all)+1) {
				a := numbered(n, k, scattered(i, voicings))
				for cost, want := range plainBalls(n, a, all) {
					if list, e := voices.Ball(n, a, cost); !equal(list, want) || e != api.OK {
						t.Fatal(n, a, cost, list, e)
					}
				}
			}
		}
	}
}

func TestBall(t *testing.T) {
	for _, x := range []struct {
		n    int
		a    []int
		cost int
		want [][]int
	}{
		{12, []int{0}, 1, [][]int{{0}, {1}, {11}}},
		{12, []int{0}, 0, [][]int{{0}}},
		{12, []int{7, 0, 4}, 0, [][]int{{0, 4, 7}}},
		{12, []int{5}, 4, [][]int{{1}, {2}, {3}, {4}, {5}, {6}, {7}, {8}, {9}}},
		{2, []int{1}, 1, [][]int{{0}, {1}}},
		{2, []int{1, 1}, 1, [][]int{{0, 1}, {1, 1}}},
		{2, []int{1, 1}, 4, [][]int{{0, 0}, {0, 1}, {1, 1}}},
		{3, []int{2, 0}, 1, [][]int{{0, 0}, {0, 1}, {0, 2}, {1, 2}, {2, 2}}},
		{12, []int{3, 3}, 1, [][]int{{2, 3}, {3, 3}, {3, 4}}},
		{12, []int{0, 6}, 1, [][]int{{0, 5}, {0, 6}, {0, 7}, {1, 6}, {6, 11}}},
	} {
		if list, e := voices.Ball(x.n, x.a, x.cost); !equal(list, x.want) || e != api.OK {
			t.Error(x, list, e)
		}
	}
}
