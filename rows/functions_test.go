package rows_test

import (
	"math"
	"slices"
	"testing"

	"sackbut/api"
	"sackbut/rows"
)

// must returns a result and fails the test unless there is no error.
func must[T any](t *testing.T) func(T, api.Errno) T {
	t.Helper()
	return func(result T, e api.Errno) T {
		t.Helper()
		if e != api.OK {
			t.Fatal("error", e)
		}
		return result
	}
}

// equal compares lists of rows.
func equal(a, b [][]int) bool {
	return slices.EqualFunc(a, b, slices.Equal)
}

// P5.1

func TestStepsAndEveryOfRows(t *testing.T) {
	for row := range someRows {
		if list, e := rows.Steps(row); !slices.Equal(list, plainSteps(row)) || e != api.OK {
			t.Fatal("Steps", row, list, e)
		}
		if ok, e := rows.Every(row); ok != plainEvery(row) || e != api.OK {
			t.Fatal("Every", row, ok, e)
		}
	}
}

func TestStepsAndEvery(t *testing.T) {
	for _, x := range []struct {
		row, steps []int
		every      bool
	}{
		{[]int{0, 1}, []int{1}, true},
		{[]int{1, 0}, []int{1}, true},
		{[]int{0, 1, 2}, []int{1, 1}, false},
		{[]int{1, 0, 2}, []int{2, 2}, false},
		{[]int{0, 1, 3, 2}, []int{1, 2, 3}, true},
		{[]int{0, 3, 1, 2}, []int{3, 2, 1}, true},
		{[]int{3, 0, 2, 1}, []int{1, 2, 3}, true},
		{[]int{0, 2, 1, 3}, []int{2, 3, 2}, false}, // only two steps that do not follow each other are the same
		{[]int{0, 5, 1, 4, 2, 3}, []int{5, 2, 3, 4, 1}, true},
		{[]int{0, 1, 3, 2, 4, 5}, []int{1, 2, 5, 2, 1}, false},
		{[]int{0, 9, 1, 8, 2, 7, 3, 6, 4, 5}, []int{9, 2, 7, 4, 5, 6, 3, 8, 1}, true},
		{[]int{9, 8, 7, 6, 5, 4, 3, 2, 1, 0}, []int{9, 9, 9, 9, 9, 9, 9, 9, 9}, false},
	} {
		if list, e := rows.Steps(x.row); !slices.Equal(list, x.steps) || e != api.OK {
			t.Error("Steps", x, list, e)
		}
		if ok, e := rows.Every(x.row); ok != x.every || e != api.OK {
			t.Error("Every", x, ok, e)
		}
	}
}

// P5.2

func TestFormOfRows(t *testing.T) {
	for row := range someRows {
		n := len(row)
		for kind := range 4 {
			for k := -2; k <= n+1; k++ {
				if made, e := rows.Form(row, kind, k); !slices.Equal(made, plainForm(n, row, kind, k)) || e != api.OK {
					t.Fatal(row, kind, k, made, e)
				}
			}
		}
	}
}

func TestForm(t *testing.T) {
	row, ten := []int{0, 1, 3, 2}, []int{0, 9, 1, 8, 2, 7, 3, 6, 4, 5}
	for _, x := range []struct {
		row     []int
		kind, k int
		want    []int
	}{
		{row, 0, 0, []int{0, 1, 3, 2}},
		{row, 0, 1, []int{1, 2, 0, 3}},
		{row, 1, 0, []int{0, 3, 1, 2}},
		{row, 1, 3, []int{3, 2, 0, 1}},
		{row, 2, 0, []int{2, 3, 1, 0}},
		{row, 2, 2, []int{0, 1, 3, 2}},
		{row, 3, 0, []int{2, 1, 3, 0}},
		{row, 3, 1, []int{3, 2, 0, 1}},
		{row, 0, 4, []int{0, 1, 3, 2}},
		{row, 0, -1, []int{3, 0, 2, 1}},
		{row, 1, math.MaxInt, []int{3, 2, 0, 1}}, // MaxInt is 3 modulo 4
		{row, 2, math.MinInt, []int{2, 3, 1, 0}},
		{row, 3, math.MinInt + 1, []int{3, 2, 0, 1}},
		{ten, 0, math.MaxInt, []int{7, 6, 8, 5, 9, 4, 0, 3, 1, 2}}, // 7 modulo 10
		{ten, 0, math.MinInt, []int{2, 1, 3, 0, 4, 9, 5, 8, 6, 7}}, // 2 modulo 10
		{ten, 3, math.MinInt, []int{7, 8, 6, 9, 5, 0, 4, 1, 3, 2}},
		{[]int{1, 0}, 3, 1, []int{1, 0}},
		{[]int{1, 0, 2}, 1, 0, []int{2, 0, 1}},
	} {
		if made, e := rows.Form(x.row, x.kind, x.k); !slices.Equal(made, x.want) || e != api.OK {
			t.Error(x, made, e)
		}
	}
}

func TestFormsOfRows(t *testing.T) {
	for row := range someRows {
		want := plainForms(row)
		if list, e := rows.Forms(row); !equal(list, want) || e != api.OK {
			t.Fatal("Forms", row, list, e)
		}
		if prime, e := rows.Prime(row); !slices.Equal(prime, want[0]) || e != api.OK {
			t.Fatal("Prime", row, prime, e)
		}
	}
}

func TestForms(t *testing.T) {
	for _, x := range []struct {
		row  []int
		want [][]int
	}{
		{[]int{1, 0}, [][]int{{0, 1}, {1, 0}}},
		{[]int{2, 1, 0}, [][]int{{0, 1, 2}, {0, 2, 1}, {1, 0, 2}, {1, 2, 0}, {2, 0, 1}, {2, 1, 0}}},
		{[]int{3, 2, 0, 1}, [][]int{{0, 1, 3, 2}, {0, 3, 1, 2}, {1, 0, 2, 3}, {1, 2, 0, 3}, {2, 1, 3, 0}, {2, 3, 1, 0}, {3, 0, 2, 1}, {3, 2, 0, 1}}},
		{[]int{3, 1, 0, 2}, [][]int{{0, 2, 1, 3}, {0, 2, 3, 1}, {1, 3, 0, 2}, {1, 3, 2, 0}, {2, 0, 1, 3}, {2, 0, 3, 1}, {3, 1, 0, 2}, {3, 1, 2, 0}}},
	} {
		if list, e := rows.Forms(x.row); !equal(list, x.want) || e != api.OK {
			t.Error(x, list, e)
		}
	}
}

// P5.3

func TestPrime(t *testing.T) {
	for _, x := range []struct{ row, want []int }{
		{[]int{1, 0}, []int{0, 1}},
		{[]int{2, 1, 0}, []int{0, 1, 2}},
		{[]int{2, 1, 3, 0}, []int{0, 1, 3, 2}},
		{[]int{1, 2, 3, 5, 0, 4}, []int{0, 1, 2, 4, 5, 3}}, // moved
		{[]int{5, 4, 3, 1, 0, 2}, []int{0, 1, 2, 4, 5, 3}}, // turned
		{[]int{3, 5, 4, 2, 1, 0}, []int{0, 1, 2, 4, 5, 3}}, // backward
		{[]int{3, 1, 2, 4, 5, 0}, []int{0, 1, 2, 4, 5, 3}}, // turned backward
		{[]int{9, 0, 8, 1, 7, 2, 6, 3, 5, 4}, []int{0, 1, 9, 2, 8, 3, 7, 4, 6, 5}},
	} {
		if prime, e := rows.Prime(x.row); !slices.Equal(prime, x.want) || e != api.OK {
			t.Error(x, prime, e)
		}
	}
}

func TestWayOfForms(t *testing.T) {
	for row := range someRows {
		n := len(row)
		for kind := range 4 {
			for k := range n {
				made := plainForm(n, row, kind, k)
				if name, e := rows.Way(row, made); name != plainWay(n, row, made) || e != api.OK {
					t.Fatal(row, made, name, e)
				}
			}
		}
	}
}

func TestWayOfPairs(t *testing.T) {
	none := 0
	for n := 2; n <= 10; n++ {
		all := slices.Collect(rowsOf(n))
		step := len(all)/120 | 1
		for i := 0; i < len(all); i += step {
			for j := range all {
				if len(all) > 120 && (i+j)%7 != 0 {
					continue
				}
				want, wantE := plainWay(n, all[i], all[j]), api.OK
				if want[0] < 0 {
					want, wantE = [2]int{}, api.ErrNone
					none++
				}
				if name, e := rows.Way(all[i], all[j]); name != want || e != wantE {
					t.Fatal(all[i], all[j], name, e)
				}
			}
		}
	}
	if none == 0 {
		t.Error("no pairs of which none is a form of the other")
	}
}

func TestWay(t *testing.T) {
	row := []int{0, 1, 2, 4, 5, 3}
	for _, x := range []struct {
		a, b []int
		want [2]int
		e    api.Errno
	}{
		{row, row, [2]int{0, 0}, api.OK},
		{row, []int{1, 2, 3, 5, 0, 4}, [2]int{0, 1}, api.OK},
		{[]int{1, 2, 3, 5, 0, 4}, row, [2]int{0, 5}, api.OK},
		{row, []int{5, 4, 3, 1, 0, 2}, [2]int{1, 5}, api.OK},
		{row, []int{3, 5, 4, 2, 1, 0}, [2]int{2, 0}, api.OK},
		{row, []int{3, 1, 2, 4, 5, 0}, [2]int{3, 0}, api.OK},
		{row, []int{0, 1, 2, 4, 3, 5}, [2]int{}, api.ErrNone},
		{[]int{0, 1, 2, 3}, []int{3, 2, 1, 0}, [2]int{1, 3}, api.OK}, // and backward
		{[]int{0, 1, 2, 3}, []int{1, 2, 3, 0}, [2]int{0, 1}, api.OK}, // and turned backward
		{[]int{0, 1, 3, 2}, []int{2, 3, 1, 0}, [2]int{0, 2}, api.OK}, // and backward
		{[]int{0, 1, 3, 2}, []int{2, 1, 3, 0}, [2]int{1, 2}, api.OK}, // and turned backward
		{[]int{0, 1, 2, 3}, []int{0, 1, 3, 2}, [2]int{}, api.ErrNone},
		{[]int{0, 1}, []int{1, 0}, [2]int{0, 1}, api.OK},
		{[]int{0, 1, 2}, []int{0, 1, 2, 3}, [2]int{}, api.ErrArg},
		{[]int{0, 1, 2, 3}, []int{0, 1, 2}, [2]int{}, api.ErrArg},
	} {
		if name, e := rows.Way(x.a, x.b); name != x.want || e != x.e {
			t.Error(x, name, e)
		}
	}
}

// P5.4

func TestCountFirstAndListOfAll(t *testing.T) {
	for n := 2; n <= 10; n++ {
		want := plainFrom0(n)
		if count, e := rows.Count(n); count != len(want) || e != api.OK {
			t.Error("Count", n, count, e)
		}
		row, e := rows.First(n)
		if len(want) == 0 && (len(row) != 0 || e != api.ErrNone) || len(want) > 0 && (!slices.Equal(row, want[0]) || e != api.OK) {
			t.Error("First", n, row, e)
		}
		list, e := rows.List(n)
		if n <= 8 && (!equal(list, want) || e != api.OK) || n > 8 && (len(list) != 0 || e != api.ErrArg) {
			t.Error("List", n, list, e)
		}
	}
}

func TestFirst(t *testing.T) {
	for _, x := range []struct {
		n    int
		want []int
		e    api.Errno
	}{
		{2, []int{0, 1}, api.OK},
		{3, nil, api.ErrNone},
		{4, []int{0, 1, 3, 2}, api.OK},
		{5, nil, api.ErrNone},
		{6, []int{0, 1, 5, 2, 4, 3}, api.OK},
		{9, nil, api.ErrNone},
		{10, []int{0, 1, 3, 2, 7, 4, 8, 6, 9, 5}, api.OK},
		{1, nil, api.ErrArg},
		{11, nil, api.ErrArg},
	} {
		if row, e := rows.First(x.n); !slices.Equal(row, x.want) || e != x.e {
			t.Error(x, row, e)
		}
	}
}

func TestList(t *testing.T) {
	for _, x := range []struct {
		n    int
		want [][]int
		e    api.Errno
	}{
		{2, [][]int{{0, 1}}, api.OK},
		{3, nil, api.OK}, // an empty list is no error
		{4, [][]int{{0, 1, 3, 2}, {0, 3, 1, 2}}, api.OK},
		{6, [][]int{{0, 1, 5, 2, 4, 3}, {0, 2, 1, 4, 5, 3}, {0, 4, 5, 2, 1, 3}, {0, 5, 1, 4, 2, 3}}, api.OK},
		{7, nil, api.OK},
		{9, nil, api.ErrArg},
		{10, nil, api.ErrArg},
	} {
		if list, e := rows.List(x.n); !equal(list, x.want) || e != x.e {
			t.Error(x, list, e)
		}
	}
}

// P5.5

func TestHalvesOfRows(t *testing.T) {
	for row := range someRows {
		if plainEvery(row) {
			continue
		}
		if turned, e := rows.Halves(row); len(turned) != 0 || e != api.ErrState {
			t.Fatal(row, turned, e)
		}
	}
	for n := 2; n <= 10; n++ {
		for _, row := range plainEveryRows(n) {
			if turned, e := rows.Halves(row); !slices.Equal(turned, plainHalves(row)) || e != api.OK {
				t.Fatal(row, turned, e)
			}
		}
	}
}

func TestHalves(t *testing.T) {
	for _, x := range []struct {
		row, want []int
		e         api.Errno
	}{
		{[]int{0, 1, 3, 2}, []int{3, 2, 0, 1}, api.OK},
		{[]int{3, 2, 0, 1}, []int{0, 1, 3, 2}, api.OK},
		{[]int{0, 1}, []int{1, 0}, api.OK},
		{[]int{1, 0}, []int{0, 1}, api.OK},
		{[]int{0, 2, 1, 4, 5, 3}, []int{4, 5, 3, 0, 2, 1}, api.OK},
		{[]int{5, 0, 4, 1, 3, 2}, []int{1, 3, 2, 5, 0, 4}, api.OK},
		{[]int{0, 1, 3, 2, 7, 4, 8, 6, 9, 5}, []int{7, 4, 8, 6, 9, 5, 0, 1, 3, 2}, api.OK},
		{[]int{0, 4, 5, 1, 2, 3}, nil, api.ErrState},
		{[]int{0, 1, 2, 3}, nil, api.ErrState},
		{[]int{0, 2, 1, 3}, nil, api.ErrState}, // the step 2 stands at two places
		{[]int{0, 1, 2}, nil, api.ErrState},
		{[]int{0, 1, 2, 2}, nil, api.ErrArg},
	} {
		if turned, e := rows.Halves(x.row); !slices.Equal(turned, x.want) || e != x.e {
			t.Error(x, turned, e)
		}
	}
}

// P5.6

func TestMadeOfRows(t *testing.T) {
	made, other := 0, 0
	for row := range someRows {
		for d := -1; d <= len(row)+1; d++ {
			want, wantE := false, api.ErrArg
			if plainIsPart(len(row), d) {
				want, wantE = plainMade(row, d), api.OK
			}
			if ok, e := rows.Made(row, d); ok != want || e != wantE {
				t.Fatal(row, d, ok, e)
			}
			if want {
				made++
			} else if wantE == api.OK {
				other++
			}
		}
	}
	if made < 1000 || other < 1000 {
		t.Error("too few rows that are made of one part, or not", made, other)
	}
}

func TestMade(t *testing.T) {
	for _, x := range []struct {
		row  []int
		d    int
		want bool
		e    api.Errno
	}{
		{[]int{0, 1, 2, 3}, 2, true, api.OK},
		{[]int{0, 1, 3, 2}, 2, true, api.OK}, // turned
		{[]int{0, 2, 1, 3}, 2, true, api.OK},
		{[]int{0, 3, 1, 2}, 2, true, api.OK},       // past 0
		{[]int{0, 1, 3, 2, 4, 5}, 3, true, api.OK}, // turned backward
		{[]int{0, 1, 3, 5, 4, 2}, 3, true, api.OK}, // turned
		{[]int{0, 1, 3, 4, 2, 5}, 3, false, api.OK},
		{[]int{0, 1, 3, 2, 5, 4}, 3, false, api.OK},
		{[]int{0, 1, 3, 2, 4, 5}, 2, true, api.OK},
		{[]int{0, 1, 2, 4, 3, 5}, 2, false, api.OK},
		{[]int{0, 1, 2, 3, 4, 5}, 2, true, api.OK},
		{[]int{0, 1, 2, 3, 4, 5}, 3, true, api.OK},
		{[]int{0, 1, 3, 2, 5, 4, 6, 7}, 2, true, api.OK},
		{[]int{0, 1, 3, 2, 5, 7, 6, 4}, 2, false, api.OK}, // the third piece is none
		{[]int{0, 1, 3, 2, 4, 5, 7, 6}, 4, true, api.OK},
		{[]int{0, 1, 3, 2, 6, 7, 5, 4}, 4, true, api.OK}, // backward
		{[]int{0, 1, 3, 2, 5, 4, 7, 6}, 4, false, api.OK},
		{[]int{0, 1, 2, 4, 5, 3, 6, 7}, 4, false, api.OK},
		{[]int{0, 1, 2}, 2, false, api.ErrArg},
		{[]int{0, 1, 2, 3}, 1, false, api.ErrArg},
		{[]int{0, 1, 2, 3}, 4, false, api.ErrArg},
		{[]int{0, 1, 2, 3}, 0, false, api.ErrArg},
		{[]int{0, 1}, 2, false, api.ErrArg},
		{[]int{0, 1, 2, 3, 4}, 2, false, api.ErrArg},
		{[]int{0, 1, 2, 3, 4, 5, 6, 7}, 3, false, api.ErrArg},
		{[]int{0, 1, 2, 3, 4, 5, 6, 7}, -4, false, api.ErrArg},
	} {
		if ok, e := rows.Made(x.row, x.d); ok != x.want || e != x.e {
			t.Error(x, ok, e)
		}
	}
}

// P5.7

func TestWithOfRows(t *testing.T) {
	for row := range someRows {
		list, e := rows.With(row)
		if len(row)%2 != 0 {
			if len(list) != 0 || e != api.ErrArg {
				t.Fatal(row, list, e)
			}
		} else if !slices.Equal(list, plainWith(row)) || e != api.OK {
			t.Fatal(row, list, e)
		}
	}
}

func TestWith(t *testing.T) {
	for _, x := range []struct {
		row  []int
		want [][2]int
	}{
		{[]int{0, 1, 2, 3}, [][2]int{{0, 2}, {1, 3}, {2, 0}, {3, 1}}},
		{[]int{0, 2, 1, 3}, [][2]int{{0, 1}, {0, 3}, {1, 1}, {1, 3}, {2, 0}, {2, 2}, {3, 0}, {3, 2}}},
		{[]int{0, 1}, [][2]int{{0, 1}, {1, 1}, {2, 0}, {3, 0}}},
		{[]int{0, 1, 2, 4, 3, 5}, [][2]int{{0, 3}, {1, 5}, {2, 0}, {3, 2}}},
		{[]int{0, 1, 3, 2, 4, 5}, [][2]int{{1, 5}, {2, 0}}},
	} {
		if list, e := rows.With(x.row); !slices.Equal(list, x.want) || e != api.OK {
			t.Error(x, list, e)
		}
	}
}

// P5.8

func TestFollowOfRows(t *testing.T) {
	for row := range someRows {
		n := len(row)
		for k := -1; k <= n+1; k++ {
			want, wantE := 0, api.ErrArg
			if k >= 1 && k < n {
				want, wantE = plainFollow(row, k), api.OK
			}
			if count, e := rows.Follow(row, k); count != want || e != wantE {
				t.Fatal(row, k, count, e)
			}
		}
	}
}

func TestFollow(t *testing.T) {
	for _, x := range []struct {
		row     []int
		k, want int
		e       api.Errno
	}{
		{[]int{0, 1, 2, 3}, 1, 3, api.OK},
		{[]int{0, 1, 2, 3}, 2, 2, api.OK},
		{[]int{0, 1, 2, 3}, 3, 1, api.OK},
		{[]int{3, 2, 1, 0}, 1, 1, api.OK},
		{[]int{0, 1, 3, 2}, 1, 2, api.OK}, // 0 and 1
		{[]int{0, 2, 1, 3}, 1, 2, api.OK}, // 0 and 2
		{[]int{0, 2, 4, 1, 3}, 1, 2, api.OK},
		{[]int{0, 1}, 1, 1, api.OK},
		{[]int{9, 8, 7, 6, 5, 4, 3, 2, 1, 0}, 9, 9, api.OK},
		{[]int{0, 1, 2, 3}, 0, 0, api.ErrArg},
		{[]int{0, 1, 2, 3}, 4, 0, api.ErrArg},
	} {
		if count, e := rows.Follow(x.row, x.k); count != x.want || e != x.e {
			t.Error(x, count, e)
		}
	}
}

// P5.9

// beginsOf yields all beginnings of the rows that rowsOf has, each once.
func beginsOf(n int) func(yield func([]int) bool) {
	return func(yield func([]int) bool) {
		met := map[[10]int]bool{}
		for row := range rowsOf(n) {
			for length := range n + 1 {
				// A place that is not filled must not be a tone.
				key := [10]int{-1, -1, -1, -1, -1, -1, -1, -1, -1, -1}
				copy(key[:], row[:length])
				if met[key] {
					continue
				}
				met[key] = true
				if !yield(row[:length]) {
					return
				}
			}
		}
	}
}

func TestFillOfBeginnings(t *testing.T) {
	for n := 2; n <= 10; n++ {
		for begin := range beginsOf(n) {
			want, wantE := plainFill(begin, n), api.OK
			if want == nil {
				wantE = api.ErrNone
			}
			if row, e := rows.Fill(begin, n); !slices.Equal(row, want) || e != wantE {
				t.Fatal(begin, n, row, e, "not", want)
			}
		}
	}
}

func TestFillOfRowsWithEveryStep(t *testing.T) {
	for n := 2; n <= 10; n++ {
		for i, row := range plainEveryRows(n) {
			for length := range n + 1 {
				if (i+length)%5 != 0 && n == 10 && length < 5 {
					continue
				}
				want := plainFill(row[:length], n)
				if filled, e := rows.Fill(row[:length], n); !slices.Equal(filled, want) || e != api.OK {
					t.Fatal(row, length, filled, e, "not", want)
				}
			}
		}
	}
}

func TestFill(t *testing.T) {
	for _, x := range []struct {
		begin []int
		n     int
		want  []int
		e     api.Errno
	}{
		{nil, 2, []int{0, 1}, api.OK},
		{nil, 3, nil, api.ErrNone},
		{nil, 6, []int{0, 1, 5, 2, 4, 3}, api.OK},
		{[]int{0}, 6, []int{0, 1, 5, 2, 4, 3}, api.OK},
		{[]int{1}, 2, []int{1, 0}, api.OK},
		{[]int{0, 1, 2}, 3, nil, api.ErrNone},
		{[]int{0, 2}, 6, []int{0, 2, 1, 4, 5, 3}, api.OK},
		{[]int{0, 3}, 6, nil, api.ErrNone}, // the last tone is 3
		{[]int{5, 0}, 6, []int{5, 0, 4, 1, 3, 2}, api.OK},
		{[]int{0, 1, 2}, 6, nil, api.ErrNone}, // the step 1 comes twice
		{[]int{0, 1, 5, 2, 4, 3}, 6, []int{0, 1, 5, 2, 4, 3}, api.OK},
		{[]int{0, 1, 2, 3, 4, 5}, 6, nil, api.ErrNone},
		{[]int{0, 1, 5, 2, 4, 3, 6}, 6, nil, api.ErrArg},
		{[]int{0, 1, 5, 2, 4, 3, 0}, 6, nil, api.ErrArg},
		{[]int{0, 1, 2, 2}, 6, nil, api.ErrArg},
		{[]int{0, 1, 2, 6}, 6, nil, api.ErrArg}, // no tone, behind a step that comes twice
		{[]int{-1}, 6, nil, api.ErrArg},
		{[]int{6}, 6, nil, api.ErrArg},
		{[]int{9}, 10, []int{9, 0, 2, 1, 6, 3, 7, 5, 8, 4}, api.OK},
		{[]int{0}, 1, nil, api.ErrArg},
		{[]int{0}, 11, nil, api.ErrArg},
		{nil, 0, nil, api.ErrArg},
	} {
		if row, e := rows.Fill(x.begin, x.n); !slices.Equal(row, x.want) || e != x.e {
			t.Error(x, row, e)
		}
	}
}
