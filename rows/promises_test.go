package rows_test

import (
	"slices"
	"testing"

	"sackbut/api"
	"sackbut/rows"
)

// fewRows yields some of the rows that someRows has.
func fewRows(yield func([]int) bool) {
	number := 0
	for row := range someRows {
		number++
		if len(row) > 5 && number%7 != 0 {
			continue
		}
		if !yield(row) {
			return
		}
	}
}

// names yields all names of forms of rows with n tones.
func names(n int) func(yield func(kind, k int) bool) {
	return func(yield func(kind, k int) bool) {
		for kind := range 4 {
			for k := range n {
				if !yield(kind, k) {
					return
				}
			}
		}
	}
}

// multiplied returns the row with all tones multiplied by m.
func multiplied(row []int, m int) []int {
	var list []int
	for _, tone := range row {
		list = append(list, tone*m%len(row))
	}
	return list
}

// tonesOf returns tones in order.
func tonesOf(part []int) []int {
	return slices.Sorted(slices.Values(part))
}

// P5.10

func TestFormsOfForms(t *testing.T) {
	for row := range fewRows {
		all := must[[][]int](t)(rows.Forms(row))
		if 4*len(row)%len(all) != 0 {
			t.Fatal(row, "has", len(all), "forms")
		}
		prime := must[[]int](t)(rows.Prime(row))
		every := must[bool](t)(rows.Every(row))
		for kind, k := range names(len(row)) {
			made := must[[]int](t)(rows.Form(row, kind, k))
			if list := must[[][]int](t)(rows.Forms(made)); !equal(list, all) {
				t.Fatal(row, kind, k, list, all)
			}
			if first := must[[]int](t)(rows.Prime(made)); !slices.Equal(first, prime) {
				t.Fatal(row, kind, k, first, prime)
			}
			if ok := must[bool](t)(rows.Every(made)); ok != every {
				t.Fatal(row, kind, k, ok)
			}
		}
	}
}

func TestFormOfAFormIsAForm(t *testing.T) {
	for row := range fewRows {
		for kind, k := range names(len(row)) {
			made := must[[]int](t)(rows.Form(row, kind, k))
			again := must[[]int](t)(rows.Form(made, len(row)%4, k+1))
			name := must[[2]int](t)(rows.Way(row, again))
			if back := must[[]int](t)(rows.Form(row, name[0], name[1])); !slices.Equal(back, again) {
				t.Fatal(row, again, name, back)
			}
		}
	}
}

func TestNumbersOfForms(t *testing.T) {
	for _, x := range []struct {
		row  []int
		want int
	}{
		{[]int{0, 1}, 2},
		{[]int{0, 1, 2}, 6},
		{[]int{0, 1, 2, 3}, 8},
		{[]int{0, 1, 3, 2}, 8},
		{[]int{0, 1, 2, 4, 3}, 20},
		{[]int{0, 1, 4, 2, 3}, 10}, // its steps are the same from both ends
		{[]int{0, 1, 2, 4, 5, 3}, 24},
		{[]int{0, 5, 1, 4, 2, 3}, 12},
		{[]int{0, 1, 2, 3, 4, 5, 6, 7, 8, 9}, 20},
		{[]int{0, 1, 2, 3, 4, 5, 6, 7, 9, 8}, 40},
	} {
		if list := must[[][]int](t)(rows.Forms(x.row)); len(list) != x.want {
			t.Error(x, len(list))
		}
	}
}

// P5.11

func TestCounts(t *testing.T) {
	for n, want := range map[int]int{2: 1, 3: 0, 4: 2, 5: 0, 6: 4, 7: 0, 8: 24, 9: 0, 10: 288} {
		if count, e := rows.Count(n); count != want || e != api.OK {
			t.Error(n, count, e)
		}
	}
}

func TestListHasCountAndFirst(t *testing.T) {
	for n := 2; n <= 8; n++ {
		list := must[[][]int](t)(rows.List(n))
		if count := must[int](t)(rows.Count(n)); len(list) != count {
			t.Error(n, len(list), count)
		}
		if row, e := rows.First(n); e == api.OK && !slices.Equal(row, list[0]) || e == api.ErrNone && len(list) != 0 {
			t.Error(n, row, e)
		}
		if !slices.IsSortedFunc(list, slices.Compare) {
			t.Error(n, list)
		}
	}
}

func TestRowsWithEveryStep(t *testing.T) {
	for n := 2; n <= 10; n += 2 {
		for _, row := range plainEveryRows(n) {
			if apart := row[n-1] - row[0]; apart != n/2 && apart != -n/2 {
				t.Fatal(row, apart)
			}
			for m := 1; m < n; m++ {
				if plainGCD(n, m) == 1 && !must[bool](t)(rows.Every(multiplied(row, m))) {
					t.Fatal(row, m)
				}
			}
		}
	}
}

func TestMultipliedRowsKeepEvery(t *testing.T) {
	for row := range someRows {
		n := len(row)
		every := must[bool](t)(rows.Every(row))
		if every && (row[n-1]-row[0])*2 != n && (row[0]-row[n-1])*2 != n {
			t.Fatal(row)
		}
		for m := 1; m < n; m++ {
			if plainGCD(n, m) == 1 && must[bool](t)(rows.Every(multiplied(row, m))) != every {
				t.Fatal(row, m)
			}
		}
	}
}

func TestFillHasEveryStep(t *testing.T) {
	for n := 2; n <= 10; n++ {
		for begin := range beginsOf(n) {
			row, e := rows.Fill(begin, n)
			if e == api.OK && (!slices.Equal(row[:len(begin)], begin) || !must[bool](t)(rows.Every(row))) {
				t.Fatal(begin, n, row)
			}
		}
	}
}

// P5.12

func TestTurnsOfTheHalves(t *testing.T) {
	for n := 2; n <= 10; n += 2 {
		for _, row := range plainEveryRows(n) {
			turned := must[[]int](t)(rows.Halves(row))
			if slices.Equal(turned, row) || !must[bool](t)(rows.Every(turned)) {
				t.Fatal(row, turned)
			}
			if again := must[[]int](t)(rows.Halves(turned)); !slices.Equal(again, row) {
				t.Fatal(row, turned, again)
			}
		}
	}
}

// P5.13

func TestGoingTogether(t *testing.T) {
	for row := range someRows {
		n := len(row)
		if n%2 != 0 {
			continue
		}
		list := must[[][2]int](t)(rows.With(row))
		if !slices.Contains(list, [2]int{2, 0}) {
			t.Fatal(row, list)
		}
		for _, name := range list {
			made := must[[]int](t)(rows.Form(row, name[0], name[1]))
			if !slices.Equal(tonesOf(made[n/2:]), tonesOf(row[:n/2])) {
				t.Fatal(row, name, made)
			}
		}
	}
}

// P5.14

func TestFormsOfRowsMadeOfOnePart(t *testing.T) {
	made := 0
	for row := range fewRows {
		n := len(row)
		for d := 2; d <= n/2; d++ {
			if n%d != 0 {
				continue
			}
			want := must[bool](t)(rows.Made(row, d))
			if want {
				made++
			}
			for kind, k := range names(n) {
				form := must[[]int](t)(rows.Form(row, kind, k))
				if ok := must[bool](t)(rows.Made(form, d)); ok != want {
					t.Fatal(row, d, kind, k, ok)
				}
			}
		}
	}
	if made == 0 {
		t.Error("no row that is made of one part")
	}
}

func TestRowsOfEqualStepsAreMade(t *testing.T) {
	for n := 4; n <= 10; n++ {
		for m := 1; m < n; m++ {
			for d := 2; d <= n/2; d++ {
				if n%d != 0 || plainGCD(n, m) != 1 {
					continue
				}
				for k := range n {
					row := plainForm(n, plainEqual(n, m), 0, k)
					if ok := must[bool](t)(rows.Made(row, d)); !ok {
						t.Fatal(row, d)
					}
				}
			}
		}
	}
}

// P5.15

func TestFollowSums(t *testing.T) {
	for row := range someRows {
		n := len(row)
		for k := 1; k < n; k++ {
			above, below := must[int](t)(rows.Follow(row, k)), must[int](t)(rows.Follow(row, n-k))
			if above+below != n {
				t.Fatal(row, k, above, below)
			}
		}
	}
}
