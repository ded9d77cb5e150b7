package edits_test

import (
	"slices"
	"strings"
	"testing"

	"sackbut/api"
	"sackbut/edits"
)

// expect says which error a call had to give, and that an error comes with zero values only.
func expect(t *testing.T, name string, want, e api.Errno, zero bool, arguments ...any) {
	t.Helper()
	if e != want {
		t.Fatal(name, arguments, "error", e, "not", want)
	}
	if e != api.OK && !zero {
		t.Fatal(name, arguments, "a result besides the error", e)
	}
}

// errorOf returns ErrArg unless the arguments are valid.
func errorOf(valid bool) api.Errno {
	if valid {
		return api.OK
	}
	return api.ErrArg
}

// checkLines calls all functions of two strings, each of which may be a line or none, and prices, which may be none.
func checkLines(t *testing.T, a, b string, p edits.Prices) {
	t.Helper()
	lines := plainIsLine(a) && plainIsLine(b)
	want := errorOf(lines && plainArePrices(p))
	c, e := edits.Cost(a, b, p)
	expect(t, "Cost", want, e, c == 0, a, b, p)
	s, e := edits.Script(a, b, p)
	expect(t, "Script", want, e, len(s) == 0, a, b, p)
	c, ok, e := edits.Check(a, b, p, s)
	expect(t, "Check", want, e, c == 0 && !ok, a, b, p)
	c, ok, e = edits.Check(a, b, p, []edits.Edit{{Kind: 7}})
	expect(t, "Check", want, e, c == 0 && !ok, a, b, p)
	h, e := edits.Heights(a, b, p)
	expect(t, "Heights", want, e, len(h) == 0, a, b, p)
	c, ok, e = edits.CheckHeights(a, b, p, h)
	expect(t, "CheckHeights", want, e, c == 0 && !ok, a, b, p)
	c, ok, e = edits.CheckHeights(a, b, p, nil)
	expect(t, "CheckHeights", want, e, c == 0 && !ok, a, b, p)
	w, e := edits.Ways(a, b, p)
	expect(t, "Ways", want, e, w == 0, a, b, p)
	l, e := edits.Common(a, b)
	expect(t, "Common", errorOf(lines), e, l == "", a, b)
	l, e = edits.Joined(a, b)
	expect(t, "Joined", errorOf(lines), e, l == "", a, b)
	near, e := edits.Within(a, p, 100, []string{b})
	expect(t, "Within", want, e, len(near) == 0, a, p, b)
	near, e = edits.Within(a, p, 0, []string{a, b, "a"})
	expect(t, "Within", want, e, len(near) == 0, a, p, b)
}

func TestOddPrices(t *testing.T) {
	for _, x := range odd {
		for _, lines := range [][2]string{{"", ""}, {"abc", "bcd"}, {"abc", "abc"}, {"aaaaaaaaaaaa", "bbbbbbbbbbbb"}, {"aaaaaaaaaaaaa", "b"}} {
			for _, y := range odd {
				checkLines(t, lines[0], lines[1], edits.Prices{In: x, Out: y, Swap: 1})
				checkLines(t, lines[0], lines[1], edits.Prices{In: 9, Out: x, Swap: y})
				checkLines(t, lines[0], lines[1], edits.Prices{In: x, Out: 5, Swap: y})
			}
		}
	}
	checkLines(t, "a", "b", edits.Prices{})
}

func TestOddLines(t *testing.T) {
	var lines []string
	for _, letter := range []string{"a", "b", "\x00", "\xff", " ", "\n"} {
		for _, length := range []int{0, 1, 11, 12, 13, 14, 24, 255, 256, 257} {
			lines = append(lines, strings.Repeat(letter, length))
		}
	}
	lines = append(lines, "éééééé", "ééééééé", strings.Repeat("ab", 1<<19))
	for _, a := range lines {
		for _, b := range lines {
			checkLines(t, a, b, edits.Prices{In: 1, Out: 2, Swap: 3})
		}
		want := errorOf(plainIsLine(a))
		keeps := make([]edits.Edit, len(a))
		if len(a) > 24 {
			keeps = nil
		}
		came, e := edits.Apply(a, keeps)
		expect(t, "Apply", want, e, came == "", a)
	}
}

// ErrArg comes before ErrNone.
func TestOddLengthsOfScripts(t *testing.T) {
	for _, length := range []int{0, 1, 12, 23, 24, 25, 26, 64, 1 << 16} {
		for kind := -1; kind <= 4; kind++ {
			for _, a := range []string{"", "a", "aaaaaaaaaaaa", "aaaaaaaaaaaaa"} {
				s := slices.Repeat([]edits.Edit{{Kind: kind}}, length)
				want := errorOf(length <= 24 && len(a) <= 12)
				text, ok := plainRun(a, s)
				if want == api.OK && !ok {
					want = api.ErrNone
				}
				came, e := edits.Apply(a, s)
				expect(t, "Apply", want, e, came == "", a, kind, length)
				if e == api.OK && came != text {
					t.Fatal("Apply", a, kind, length, came)
				}
				if len(a) <= 12 {
					cost, is, e := edits.Check(a, "", fewPrices[0], s)
					if wanted := ok && text == ""; is != wanted || cost != 0 && !wanted || e != api.OK {
						t.Fatal("Check", a, kind, length, cost, is, e)
					}
				}
			}
		}
	}
	s := slices.Repeat([]edits.Edit{{Kind: 3, Byte: 97}}, 1<<20)
	cost, ok, e := edits.Check("", "aaaaaaaaaaaa", fewPrices[0], s)
	if cost != 0 || ok || e != api.OK {
		t.Error(cost, ok, e)
	}
}

func TestOddEdits(t *testing.T) {
	for _, kind := range odd {
		for _, letter := range odd {
			for _, a := range []string{"", "a", "\x00", "\xff"} {
				s := []edits.Edit{{Kind: kind, Byte: letter}}
				checkApply(t, a, s)
				for _, b := range []string{"", "a", "\x00", "\xff", "b"} {
					checkCheck(t, a, b, fewPrices[3], s)
				}
			}
		}
	}
}

func TestOddHeights(t *testing.T) {
	for _, x := range odd {
		for _, y := range odd {
			checkHeights(t, "", "", fewPrices[3], [][]int{{x}})
			checkHeights(t, "", "a", fewPrices[3], [][]int{{x, y}})
			checkHeights(t, "a", "", fewPrices[3], [][]int{{x}, {y}})
			checkHeights(t, "a", "a", fewPrices[3], [][]int{{0, 0}, {x, y}})
			checkHeights(t, "a", "b", fewPrices[3], [][]int{{0, x}, {0, y}})
			checkHeights(t, "a", "b", fewPrices[3], [][]int{{0, -1000}, {x, y}})
		}
	}
}

func TestOddShapesOfHeights(t *testing.T) {
	for rows := range 16 {
		for wide := range 16 {
			h := slices.Repeat([][]int{make([]int, wide)}, rows)
			for _, lines := range [][2]string{{"", ""}, {"", "ab"}, {"abc", ""}, {"abc", "ab"}, {"aaaaaaaaaaaa", "bbbbbbbbbbbb"}} {
				checkHeights(t, lines[0], lines[1], fewPrices[0], h)
				// Heights of the right shape but for one row.
				for short := range rows {
					other := slices.Clone(h)
					other[short] = make([]int, wide+1)
					checkHeights(t, lines[0], lines[1], fewPrices[0], other)
					other[short] = nil
					checkHeights(t, lines[0], lines[1], fewPrices[0], other)
				}
			}
		}
	}
}

func checkMelodies(t *testing.T, a, b []int) {
	t.Helper()
	want := errorOf(plainIsMelody(a) && plainIsMelody(b))
	c, e := edits.Over(a, b)
	expect(t, "Over", want, e, c == 0, a, b)
	way, e := edits.OverWay(a, b)
	expect(t, "OverWay", want, e, len(way) == 0, a, b)
	if e == api.OK && !plainIsWay(a, b, way) {
		t.Fatal("OverWay", a, b, way)
	}
}

func TestOddMelodies(t *testing.T) {
	for _, x := range odd {
		for _, y := range odd {
			checkMelodies(t, []int{x}, []int{y})
			checkMelodies(t, []int{x, 0}, []int{0, y})
			checkMelodies(t, []int{0, 0, x}, []int{y, 0, 0})
		}
	}
	for length := range 12 {
		for place := range length + 1 {
			for _, number := range []int{-1001, -1000, 1000, 1001} {
				melody := make([]int, length+1)
				melody[place] = number
				checkMelodies(t, melody, []int{0})
				checkMelodies(t, []int{0}, melody)
			}
		}
	}
	for _, a := range []int{0, 1, 11, 12, 13, 14, 64, 1 << 16} {
		for _, b := range []int{0, 1, 11, 12, 13, 14, 64, 1 << 16} {
			checkMelodies(t, make([]int, a), make([]int, b))
		}
	}
	checkMelodies(t, nil, nil)
	checkMelodies(t, nil, []int{})
	checkMelodies(t, nil, []int{0})
}

func TestOddMost(t *testing.T) {
	for _, most := range odd {
		want := errorOf(most >= 0 && most <= 100)
		for _, list := range [][]string{nil, {}, {"a"}, {"a", "", "b"}} {
			near, e := edits.Within("a", fewPrices[0], most, list)
			expect(t, "Within", want, e, len(near) == 0, most, list)
		}
	}
}

func TestOddLists(t *testing.T) {
	for _, length := range []int{0, 1, 19, 20, 21, 22, 64, 1 << 16} {
		near, e := edits.Within("", fewPrices[0], 0, make([]string, length))
		expect(t, "Within", errorOf(length <= 20), e, len(near) == 0, length)
		if e == api.OK && len(near) != length {
			t.Fatal(length, near)
		}
	}
	// A string that is no line is an error at each place of a list.
	for length := 1; length <= 20; length++ {
		for place := range length {
			list := make([]string, length)
			list[place] = "aaaaaaaaaaaaa"
			near, e := edits.Within("", fewPrices[0], 100, list)
			expect(t, "Within", api.ErrArg, e, len(near) == 0, length, place)
			list[place] = "aaaaaaaaaaaa"
			near, e = edits.Within("", fewPrices[0], 100, list)
			expect(t, "Within", api.OK, e, false, length, place)
			if len(near) != length {
				t.Fatal(length, place, near)
			}
		}
	}
}

// The results for nil and for empty slices are the same (Rule 4).
func TestNilAndEmpty(t *testing.T) {
	for _, a := range []string{"", "a"} {
		one, e := edits.Apply(a, nil)
		other, f := edits.Apply(a, []edits.Edit{})
		if one != other || e != f {
			t.Error("Apply", a, one, e, other, f)
		}
		for _, b := range []string{"", "a"} {
			c, ok, e := edits.Check(a, b, fewPrices[0], nil)
			d, is, f := edits.Check(a, b, fewPrices[0], []edits.Edit{})
			if c != d || ok != is || ok != (a == "" && b == "") || e != f || e != api.OK {
				t.Error("Check", a, b, c, ok, e, d, is, f)
			}
			c, ok, e = edits.CheckHeights(a, b, fewPrices[0], nil)
			d, is, f = edits.CheckHeights(a, b, fewPrices[0], [][]int{})
			if c != d || ok != is || ok || e != f || e != api.OK {
				t.Error("CheckHeights", a, b, c, ok, e, d, is, f)
			}
		}
	}
}

// withSpare returns a slice with room behind it, and all of its memory.
func withSpare[T any](elements []T, spare T) (list, all []T) {
	all = append(slices.Clone(elements), slices.Repeat([]T{spare}, 20)...)
	return all[:len(elements)], all
}

// spoil overwrites a result, and what memory is behind it.
func spoil[T any](list []T, element T) {
	for i := range list[:cap(list)] {
		list[:cap(list)][i] = element
	}
}

// No argument is changed, and no result shares memory with one (Rule 4).
func TestArgumentsStay(t *testing.T) {
	p := fewPrices[4]
	for number := range 200 {
		a, b := somePair(number)
		s, allEdits := withSpare(must[[]edits.Edit](t)(edits.Script(a, b, p)), edits.Edit{Kind: 9, Byte: 77})
		keptEdits := slices.Clone(allEdits)
		edits.Check(a, b, p, s)
		edits.Apply(a, s)
		if !slices.Equal(allEdits, keptEdits) {
			t.Fatal("edits", a, b, allEdits)
		}
		heights := must[[][]int](t)(edits.Heights(a, b, p))
		h, allHeights := withSpare(heights, []int{77})
		keptHeights := make([][]int, len(allHeights))
		for i, row := range allHeights {
			keptHeights[i] = slices.Clone(row)
		}
		edits.CheckHeights(a, b, p, h)
		if !slices.EqualFunc(allHeights, keptHeights, slices.Equal) {
			t.Fatal("heights", a, b, allHeights)
		}
		list, allLines := withSpare([]string{b, a, "", b}, "spare")
		keptLines := slices.Clone(allLines)
		spoil(must[[]int](t)(edits.Within(a, p, 50, list)), -1)
		if !slices.Equal(allLines, keptLines) {
			t.Fatal("lines", a, b, allLines)
		}
		x, allX := withSpare(someMelody(number), 77)
		y, allY := withSpare(someMelody(number+1), 77)
		keptX, keptY := slices.Clone(allX), slices.Clone(allY)
		edits.Over(x, y)
		spoil(must[[][2]int](t)(edits.OverWay(x, y)), [2]int{-1, -1})
		if !slices.Equal(allX, keptX) || !slices.Equal(allY, keptY) {
			t.Fatal("melodies", allX, allY)
		}
	}
}

// A caller may change what it got, and gets the same again (Rules 2 and 4).
func TestResultsAreNew(t *testing.T) {
	a, b, p := "kitten", "sitting", fewPrices[3]
	list := []string{"kit", "kitten", "sitting", "mitten"}
	for range 20 {
		s := must[[]edits.Edit](t)(edits.Script(a, b, p))
		if cost := plainPrice(p, s); cost != must[int](t)(edits.Cost(a, b, p)) {
			t.Fatal("Script", s, cost)
		}
		spoil(s, edits.Edit{Kind: 9})
		way := must[[][2]int](t)(edits.OverWay([]int{1, 3}, []int{1, 1, 3}))
		if !slices.Equal(way, [][2]int{{0, 0}, {0, 1}, {1, 2}}) {
			t.Fatal("OverWay", way)
		}
		spoil(way, [2]int{-1, -1})
		near := must[[]int](t)(edits.Within(a, p, 5, list))
		if !slices.Equal(near, []int{1, 3}) {
			t.Fatal("Within", near)
		}
		spoil(near, -1)
	}
}

// No two rows of heights share memory, also not behind their ends.
func TestRowsOfHeightsAreNew(t *testing.T) {
	for a, b := range pairsOfLines(100) {
		h := must[[][]int](t)(edits.Heights(a, b, fewPrices[3]))
		for spoilt := range h {
			kept := must[[][]int](t)(edits.Heights(a, b, fewPrices[3]))
			h = must[[][]int](t)(edits.Heights(a, b, fewPrices[3]))
			spoil(h[spoilt], -77)
			for i, row := range h {
				if i != spoilt && !slices.Equal(row, kept[i]) {
					t.Fatal(a, b, spoilt, h)
				}
			}
		}
	}
}
