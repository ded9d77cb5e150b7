package rows_test

import (
	"slices"
	"testing"

	"sackbut/api"
	"sackbut/rows"
)

// expect says which error a call had to give, and that an error comes with zero values only.
func expect(t *testing.T, name string, want, e api.Errno, zero bool, arguments ...any) {
	t.Helper()
	if e != want {
		t.Fatal(name, arguments, "error", e, "not", want)
	}
	if e != api.OK && !zero {
		t.Fatal(name, arguments, "a result besides the error", e)
	}
}

// argument returns the error of a call whose arguments are right, or not.
func argument(right bool) api.Errno {
	if right {
		return api.OK
	}
	return api.ErrArg
}

// behind returns the error of a call that has another one than ErrArg behind it.
func behind(right, has bool, other api.Errno) api.Errno {
	if right && !has {
		return other
	}
	return argument(right)
}

// spoiltRows yields rows of all lengths of which one tone is another number: most are no rows.
func spoiltRows(yield func([]int) bool) {
	for n := 2; n <= 10; n++ {
		for _, row := range [][]int{plainEqual(n, 1), plainRow(n, plainCount(n)/3), plainRow(n, plainCount(n)-1)} {
			for place := range n {
				for _, number := range append([]int{n - 1, n, n + 1, -n, n - 64, n + 64}, odd...) {
					spoilt := slices.Clone(row)
					spoilt[place] = number
					if !yield(spoilt) {
						return
					}
				}
			}
		}
	}
}

// checkRow calls all functions of one row.
func checkRow(t *testing.T, row []int) {
	t.Helper()
	right := plainIsRow(row)
	want := argument(right)
	list, e := rows.Steps(row)
	expect(t, "Steps", want, e, len(list) == 0, row)
	ok, e := rows.Every(row)
	expect(t, "Every", want, e, !ok, row)
	list, e = rows.Form(row, 1, 1)
	expect(t, "Form", want, e, len(list) == 0, row)
	all, e := rows.Forms(row)
	expect(t, "Forms", want, e, len(all) == 0, row)
	list, e = rows.Prime(row)
	expect(t, "Prime", want, e, len(list) == 0, row)
	name, e := rows.Way(row, row)
	expect(t, "Way", want, e, name == [2]int{}, row)
	list, e = rows.Halves(row)
	expect(t, "Halves", behind(right, right && plainEvery(row), api.ErrState), e, len(list) == 0, row)
	ok, e = rows.Made(row, len(row)/2)
	expect(t, "Made", argument(right && plainIsPart(len(row), len(row)/2)), e, !ok, row)
	with, e := rows.With(row)
	expect(t, "With", argument(right && len(row)%2 == 0), e, len(with) == 0, row)
	count, e := rows.Follow(row, 1)
	expect(t, "Follow", want, e, count == 0, row)
}

func TestOddRows(t *testing.T) {
	for _, row := range oddRows {
		if plainIsRow(row) {
			t.Fatal(row, "is a row")
		}
		checkRow(t, row)
	}
	right := 0
	for row := range spoiltRows {
		checkRow(t, row)
		if plainIsRow(row) {
			right++
		}
	}
	if right == 0 {
		t.Error("no rows among the spoilt ones")
	}
}

func TestRowsNextToTheLimits(t *testing.T) {
	for n := range 14 {
		row := plainEqual(n, 1)
		want := argument(n >= 2 && n <= 10)
		if _, e := rows.Steps(row); e != want {
			t.Error(n, e)
		}
		if _, e := rows.Prime(row); e != want {
			t.Error(n, e)
		}
		checkRow(t, row)
	}
}

func TestOddWays(t *testing.T) {
	row := []int{0, 1, 3, 2}
	for _, other := range oddRows {
		name, e := rows.Way(row, other)
		expect(t, "Way", api.ErrArg, e, name == [2]int{}, row, other)
		name, e = rows.Way(other, row)
		expect(t, "Way", api.ErrArg, e, name == [2]int{}, other, row)
	}
	for other := range spoiltRows {
		right := plainIsRow(other) && len(other) == 4
		want := behind(right, right && plainWay(4, row, other)[0] >= 0, api.ErrNone)
		name, e := rows.Way(row, other)
		expect(t, "Way", want, e, name == [2]int{} || want == api.OK, row, other)
		name, e = rows.Way(other, row)
		expect(t, "Way", want, e, name == [2]int{} || want == api.OK, other, row)
	}
	for n := 2; n <= 10; n++ {
		for m := 2; m <= 10; m++ {
			name, e := rows.Way(plainEqual(n, 1), plainEqual(m, 1))
			expect(t, "Way", argument(n == m), e, name == [2]int{}, n, m)
		}
	}
}

func TestOddKindsAndParts(t *testing.T) {
	lists := append([][]int{plainEqual(2, 1), plainEqual(5, 2), plainEqual(6, 5), plainEqual(8, 3), plainEqual(9, 4), plainEqual(10, 3)}, oddRows[:len(oddRows)-2]...)
	for _, row := range lists {
		right := plainIsRow(row)
		for _, number := range append([]int{len(row), len(row) - 1, len(row) / 2}, odd...) {
			for _, k := range odd {
				list, e := rows.Form(row, number, k)
				expect(t, "Form", argument(right && number >= 0 && number <= 3), e, len(list) == 0, row, number, k)
			}
			ok, e := rows.Made(row, number)
			expect(t, "Made", argument(right && plainIsPart(len(row), number)), e, !ok, row, number)
			count, e := rows.Follow(row, number)
			expect(t, "Follow", argument(right && number >= 1 && number < len(row)), e, count == 0, row, number)
		}
	}
}

// The move counts modulo n, however far it is from 0.

func TestOddMoves(t *testing.T) {
	for n := 2; n <= 10; n++ {
		row := plainRow(n, plainCount(n)/2)
		for _, k := range odd {
			for kind := range 4 {
				want := plainForm(n, row, kind, k%n)
				if list, e := rows.Form(row, kind, k); !slices.Equal(list, want) || e != api.OK {
					t.Fatal(row, kind, k, list, e)
				}
			}
		}
	}
}

func TestOddNumbersOfTones(t *testing.T) {
	for _, n := range odd {
		right := n >= 2 && n <= 10
		has := right && n%2 == 0
		count, e := rows.Count(n)
		expect(t, "Count", argument(right), e, count == 0, n)
		list, e := rows.First(n)
		expect(t, "First", behind(right, has, api.ErrNone), e, len(list) == 0, n)
		all, e := rows.List(n)
		expect(t, "List", argument(right && n <= 8), e, len(all) == 0, n)
		list, e = rows.Fill(nil, n)
		expect(t, "Fill", behind(right, has, api.ErrNone), e, len(list) == 0, n)
	}
}

// isBegin reports whether Fill takes the beginning.
func isBegin(begin []int, n int) bool {
	if n < 2 || n > 10 || len(begin) > n {
		return false
	}
	for _, tone := range begin {
		if tone < 0 || tone >= n {
			return false
		}
	}
	return plainDifferent(begin)
}

func TestOddBeginnings(t *testing.T) {
	for _, n := range odd {
		for _, begin := range append(oddRows, []int{0, 1, 2}, []int{1, 0}, []int{3, 2, 1, 0}, plainEqual(10, 1)) {
			right := isBegin(begin, n)
			want := behind(right, right && plainFill(begin, n) != nil, api.ErrNone)
			list, e := rows.Fill(begin, n)
			expect(t, "Fill", want, e, len(list) == 0, begin, n)
		}
	}
	for begin := range spoiltRows {
		for n := 2; n <= 10; n++ {
			for length := range len(begin) + 1 {
				right := isBegin(begin[:length], n)
				// Other tests fill right beginnings of long rows, which takes longer.
				if right && n > 6 {
					continue
				}
				want := behind(right, right && plainFill(begin[:length], n) != nil, api.ErrNone)
				list, e := rows.Fill(begin[:length], n)
				expect(t, "Fill", want, e, len(list) == 0, begin[:length], n)
			}
		}
	}
}

// spare is what stands in the memory behind the rows of the next test.
const spare = 77

// withSpare returns a row with room behind it, and all of its memory.
func withSpare(row []int) (list, all []int) {
	all = append(slices.Clone(row), spare, spare, spare, spare, spare, spare, spare, spare, spare, spare)
	return all[:len(row)], all
}

// spoil overwrites a result, and what memory is behind it.
func spoil(list []int) {
	for i := range list[:cap(list)] {
		list[:cap(list)][i] = -1
	}
}

// No argument is changed, and no result shares memory with one (Rule 4).

func TestArgumentsStay(t *testing.T) {
	for row := range fewRows {
		list, all := withSpare(row)
		kept := slices.Clone(all)
		other, otherAll := withSpare(row)
		n := len(row)
		for _, call := range []func() ([]int, api.Errno){
			func() ([]int, api.Errno) { return rows.Steps(list) },
			func() ([]int, api.Errno) { return rows.Form(list, 0, 0) },
			func() ([]int, api.Errno) { return rows.Form(list, 1, 0) },
			func() ([]int, api.Errno) { return rows.Form(list, 2, 0) },
			func() ([]int, api.Errno) { return rows.Form(list, 3, 1) },
			func() ([]int, api.Errno) { return rows.Prime(list) },
			func() ([]int, api.Errno) { return rows.Halves(list) },
			func() ([]int, api.Errno) { return rows.Fill(list, n) },
			func() ([]int, api.Errno) { return rows.Fill(list[:2], n) },
			func() ([]int, api.Errno) { return rows.Fill(list[:n/2], n) },
		} {
			result, _ := call()
			spoil(result)
			if !slices.Equal(all, kept) {
				t.Fatal(row, all)
			}
		}
		forms, _ := rows.Forms(list)
		for _, form := range forms {
			spoil(form)
		}
		rows.Every(list)
		rows.Way(list, other)
		rows.Made(list, n/2)
		rows.With(list)
		rows.Follow(list, 1)
		if !slices.Equal(all, kept) || !slices.Equal(otherAll, kept) {
			t.Fatal(row, all, otherAll)
		}
	}
}

// Arguments that are not valid are not changed either.

func TestOddArgumentsStay(t *testing.T) {
	for _, row := range oddRows {
		kept := slices.Clone(row)
		checkRow(t, row)
		rows.Way(row, []int{0, 1})
		rows.Fill(row, 5)
		if !slices.Equal(row, kept) {
			t.Fatal(row, kept)
		}
	}
}

// checkApart fails if two of the rows share memory.
func checkApart(t *testing.T, list [][]int) {
	t.Helper()
	for i, row := range list {
		for j := range row[:cap(row)] {
			row[:cap(row)][j] = -1 - i
		}
	}
	for i, row := range list {
		for _, number := range row {
			if number != -1-i {
				t.Fatal("rows share memory", list)
			}
		}
	}
}

func TestRowsOfOneResultAreApart(t *testing.T) {
	for n := 2; n <= 8; n++ {
		checkApart(t, must[[][]int](t)(rows.List(n)))
	}
	for row := range fewRows {
		checkApart(t, must[[][]int](t)(rows.Forms(row)))
	}
}

// A caller may change what it got, and gets the same again (Rules 2 and 4).

func TestResultsAreNew(t *testing.T) {
	row := []int{0, 1, 3, 2, 7, 4, 8, 6, 9, 5}
	for name, call := range map[string]func() ([]int, api.Errno){
		"Steps":  func() ([]int, api.Errno) { return rows.Steps(row) },
		"Form":   func() ([]int, api.Errno) { return rows.Form(row, 3, 4) },
		"Prime":  func() ([]int, api.Errno) { return rows.Prime(row) },
		"First":  func() ([]int, api.Errno) { return rows.First(10) },
		"Halves": func() ([]int, api.Errno) { return rows.Halves(row) },
		"Fill":   func() ([]int, api.Errno) { return rows.Fill([]int{4}, 8) },
		"Forms":  func() ([]int, api.Errno) { return joined(rows.Forms(row)) },
		"List":   func() ([]int, api.Errno) { return joined(rows.List(8)) },
	} {
		first := must[[]int](t)(call())
		kept := slices.Clone(first)
		spoil(first)
		for range 20 {
			if again := must[[]int](t)(call()); !slices.Equal(again, kept) {
				t.Error(name, again, kept)
			}
		}
	}
	with := must[[][2]int](t)(rows.With(row))
	kept := slices.Clone(with)
	clear(with)
	if again := must[[][2]int](t)(rows.With(row)); !slices.Equal(again, kept) {
		t.Error("With", again, kept)
	}
}

// joined spoils the rows behind a copy of their tones.
func joined(list [][]int, e api.Errno) ([]int, api.Errno) {
	all := slices.Concat(list...)
	for _, row := range list {
		spoil(row)
	}
	return all, e
}
