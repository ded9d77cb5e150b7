package edits_test

import (
	"slices"
	"strings"
	"testing"

	"sackbut/api"
	"sackbut/edits"
)

// must returns a result and fails the test unless there is no error.
func must[T any](t *testing.T) func(T, api.Errno) T {
	t.Helper()
	return func(result T, e api.Errno) T {
		t.Helper()
		if e != api.OK {
			t.Fatal("error", e)
		}
		return result
	}
}

// P9.1, P9.4

// checkLeast holds all functions of lines and prices against the least cost and the number of scripts with it.
func checkLeast(t *testing.T, a, b string, p edits.Prices, cost, ways int) {
	t.Helper()
	if c, e := edits.Cost(a, b, p); c != cost || e != api.OK {
		t.Fatalf("Cost %q %q %v: %v %v, not %v", a, b, p, c, e, cost)
	}
	if w, e := edits.Ways(a, b, p); w != ways || e != api.OK {
		t.Fatalf("Ways %q %q %v: %v %v, not %v", a, b, p, w, e, ways)
	}
	s, e := edits.Script(a, b, p)
	if came, ok := plainRun(a, s); !ok || came != b || plainPrice(p, s) != cost || e != api.OK {
		t.Fatalf("Script %q %q %v: %v %v", a, b, p, s, e)
	}
	h, e := edits.Heights(a, b, p)
	if !plainAreHeights(a, b, p, h) || h[len(a)][len(b)] != cost || e != api.OK {
		t.Fatalf("Heights %q %q %v: %v %v", a, b, p, h, e)
	}
}

func TestCostOfShortLines(t *testing.T) {
	for _, alphabet := range []string{"ab", "\x00\xff"} {
		lines := allLines(alphabet, 3)
		for _, a := range lines {
			for _, b := range lines {
				list := plainScripts(a, b)
				for p := range allPrices {
					cost, ways := least(p, list)
					checkLeast(t, a, b, p, cost, ways)
				}
			}
		}
	}
}

func TestCostOfMoreLines(t *testing.T) {
	lines := allLines("abc", 4)
	for _, a := range lines {
		for i, b := range lines {
			if scattered(len(a)*1000+i, 4) > 0 {
				continue
			}
			list := plainScripts(a, b)
			for _, p := range fewPrices {
				cost, ways := least(p, list)
				if c, w := plainLeast(a, b, p); c != cost || w != ways {
					t.Fatal("the plain functions differ", a, b, p, c, w)
				}
				checkLeast(t, a, b, p, cost, ways)
			}
		}
	}
}

func TestCostOfLongLines(t *testing.T) {
	for number := range 4000 {
		a, b := somePair(number)
		p := pricesOf(scattered(number, 729))
		cost, ways := plainLeast(a, b, p)
		checkLeast(t, a, b, p, cost, ways)
	}
}

func TestCostOfExamples(t *testing.T) {
	full := strings.Repeat("\x00", 12)
	other := strings.Repeat("\xff", 12)
	for _, x := range []struct {
		a, b       string
		p          edits.Prices
		cost, ways int
	}{
		{"kitten", "sitting", edits.Prices{In: 1, Out: 1, Swap: 1}, 3, 1},
		{"ab", "b", edits.Prices{In: 1, Out: 1, Swap: 1}, 1, 1},
		{"a", "b", edits.Prices{In: 1, Out: 1, Swap: 1}, 1, 1},
		{"a", "b", edits.Prices{In: 1, Out: 1, Swap: 2}, 2, 3},
		{"a", "b", edits.Prices{In: 1, Out: 1, Swap: 3}, 2, 2},
		{"", "", edits.Prices{In: 9, Out: 9, Swap: 9}, 0, 1},
		{"", "ab", edits.Prices{In: 2, Out: 3, Swap: 5}, 4, 1},
		{"ab", "", edits.Prices{In: 2, Out: 3, Swap: 5}, 6, 1},
		{"aa", "a", edits.Prices{In: 2, Out: 3, Swap: 5}, 3, 2},
		{"a", "aaa", edits.Prices{In: 2, Out: 3, Swap: 5}, 4, 3},
		{"", full, edits.Prices{In: 9, Out: 1, Swap: 1}, 108, 1},
		{full, "", edits.Prices{In: 1, Out: 9, Swap: 1}, 108, 1},
		{full, other, edits.Prices{In: 9, Out: 9, Swap: 9}, 108, 1},
		{full, other, edits.Prices{In: 1, Out: 1, Swap: 9}, 24, 2704156},
		{full, other, edits.Prices{In: 1, Out: 1, Swap: 2}, 24, 251595969},
		{full, full, edits.Prices{In: 1, Out: 1, Swap: 1}, 0, 1},
	} {
		checkLeast(t, x.a, x.b, x.p, x.cost, x.ways)
	}
}

// P9.2

// spoilt yields a script with one change at each place: another kind, another byte, an edit less, and an edit more.
func spoilt(s []edits.Edit) func(func([]edits.Edit) bool) {
	return func(yield func([]edits.Edit) bool) {
		for at := range len(s) + 1 {
			for kind := -1; kind <= 4; kind++ {
				for _, letter := range []int{-1, 0, 1, 97, 98, 255, 256, 353} {
					e := edits.Edit{Kind: kind, Byte: letter}
					if !yield(slices.Insert(slices.Clone(s), at, e)) {
						return
					}
					if at < len(s) && !yield(slices.Concat(s[:at], []edits.Edit{e}, s[at+1:])) {
						return
					}
				}
			}
			if at < len(s) && !yield(slices.Delete(slices.Clone(s), at, at+1)) {
				return
			}
		}
	}
}

func checkCheck(t *testing.T, a, b string, p edits.Prices, s []edits.Edit) {
	t.Helper()
	came, ok := plainRun(a, s)
	cost := 0
	if ok && came == b {
		cost = plainPrice(p, s)
	}
	if c, is, e := edits.Check(a, b, p, s); c != cost || is != (ok && came == b) || e != api.OK {
		t.Fatalf("Check %q %q %v %v: %v %v %v", a, b, p, s, c, is, e)
	}
}

func checkApply(t *testing.T, a string, s []edits.Edit) {
	t.Helper()
	want, ok := plainRun(a, s)
	expected := api.OK
	if !ok {
		want, expected = "", api.ErrNone
	}
	if came, e := edits.Apply(a, s); came != want || e != expected {
		t.Fatalf("Apply %q %v: %q %v", a, s, came, e)
	}
}

func TestCheckAndApplyOfAllScripts(t *testing.T) {
	lines := allLines("ab", 3)
	for _, a := range lines {
		for _, b := range lines {
			for _, s := range plainScripts(a, b) {
				for _, p := range fewPrices[3:5] {
					if c, ok, e := edits.Check(a, b, p, s); c != plainPrice(p, s) || !ok || e != api.OK {
						t.Fatal("Check", a, b, p, s, c, ok, e)
					}
				}
				if came, e := edits.Apply(a, s); came != b || e != api.OK {
					t.Fatal("Apply", a, b, s, came, e)
				}
			}
		}
	}
}

func TestCheckAndApplyOfSpoiltScripts(t *testing.T) {
	lines := allLines("ab", 2)
	for _, a := range lines {
		for _, b := range lines {
			for _, s := range plainScripts(a, b) {
				for other := range spoilt(s) {
					checkCheck(t, a, b, fewPrices[3], other)
					checkApply(t, a, other)
				}
			}
		}
	}
	for number := range 60 {
		a, b := somePair(number)
		for other := range spoilt(must[[]edits.Edit](t)(edits.Script(a, b, fewPrices[0]))) {
			checkCheck(t, a, b, fewPrices[4], other)
			if len(other) <= 24 {
				checkApply(t, a, other)
			}
		}
	}
}

// All slices of up to 3 edits of the bytes a and b.
func TestCheckAndApplyOfAllEdits(t *testing.T) {
	list := [][]edits.Edit{nil}
	for from, length := 0, 1; length <= 3; length++ {
		to := len(list)
		for _, begin := range list[from:to] {
			for kind := range 4 {
				for _, letter := range []int{0, 97, 98} {
					list = append(list, slices.Concat(begin, []edits.Edit{{Kind: kind, Byte: letter}}))
				}
			}
		}
		from = to
	}
	for _, a := range allLines("ab\x00", 2) {
		for _, s := range list {
			checkApply(t, a, s)
			for _, b := range []string{"", "a", "ab", "b\x00", "bab"} {
				checkCheck(t, a, b, fewPrices[3], s)
			}
		}
	}
}

func TestCheckAndApplyOfExamples(t *testing.T) {
	p := edits.Prices{In: 2, Out: 3, Swap: 4}
	for _, x := range []struct {
		a, b string
		s    []edits.Edit
		cost int
		ok   bool
	}{
		{"ab", "ab", []edits.Edit{{0, 0}, {0, 0}}, 0, true},
		{"ab", "ab", []edits.Edit{{0, 0}}, 0, false},
		{"ab", "ab", []edits.Edit{{0, 0}, {0, 0}, {0, 0}}, 0, false},
		{"ab", "ab", []edits.Edit{{0, 97}, {0, 0}}, 0, false},
		{"ab", "ab", []edits.Edit{{1, 97}, {0, 0}}, 0, false},
		{"ab", "ab", []edits.Edit{{2, 0}, {3, 97}, {0, 0}}, 5, true},
		{"ab", "ab", []edits.Edit{{3, 97}, {2, 0}, {0, 0}}, 5, true},
		{"ab", "ab", []edits.Edit{{2, 97}, {3, 97}, {0, 0}}, 0, false},
		{"ab", "cb", []edits.Edit{{1, 99}, {0, 0}}, 4, true},
		{"ab", "cb", []edits.Edit{{1, 99 + 256}, {0, 0}}, 0, false},
		{"ab", "cb", []edits.Edit{{1, 99 - 256}, {0, 0}}, 0, false},
		{"ab", "b", []edits.Edit{{2, 0}, {0, 0}}, 3, true},
		{"ab", "b", []edits.Edit{{2, 0}, {1, 98}}, 0, false},
		{"ab", "b\x00", []edits.Edit{{2, 0}, {0, 0}, {3, 0}}, 5, true},
		{"ab", "\x00\xff", []edits.Edit{{1, 0}, {1, 255}}, 8, true},
		{"", "\x00", []edits.Edit{{3, 0}}, 2, true},
		{"", "", nil, 0, true},
		{"", "", []edits.Edit{{0, 0}}, 0, false},
		{"", "", []edits.Edit{{2, 0}}, 0, false},
		{"", "", []edits.Edit{{3, 97}}, 0, false},
		{"a", "", nil, 0, false},
		{"a", "", []edits.Edit{{4, 0}}, 0, false},
		{"a", "", []edits.Edit{{-1, 0}}, 0, false},
	} {
		if c, ok, e := edits.Check(x.a, x.b, p, x.s); c != x.cost || ok != x.ok || e != api.OK {
			t.Error("Check", x, c, ok, e)
		}
		if came, e := edits.Apply(x.a, x.s); x.ok && (came != x.b || e != api.OK) {
			t.Error("Apply", x, came, e)
		}
	}
}

func TestApplyMakesLongLines(t *testing.T) {
	var s []edits.Edit
	for range 12 {
		s = append(s, edits.Edit{Kind: 0}, edits.Edit{Kind: 3, Byte: 200})
	}
	if came, e := edits.Apply("abcdefghijkl", s); came != "a\xc8b\xc8c\xc8d\xc8e\xc8f\xc8g\xc8h\xc8i\xc8j\xc8k\xc8l\xc8" || e != api.OK {
		t.Errorf("%q %v", came, e)
	}
	s = slices.Repeat([]edits.Edit{{Kind: 3, Byte: 122}}, 24)
	if came, e := edits.Apply("", s); came != "zzzzzzzzzzzzzzzzzzzzzzzz" || e != api.OK {
		t.Errorf("%q %v", came, e)
	}
	if c, ok, e := edits.Check("", "zzzzzzzzzzzz", fewPrices[0], s); c != 0 || ok || e != api.OK {
		t.Error(c, ok, e)
	}
	if c, ok, e := edits.Check("", "zzzzzzzzzzzz", edits.Prices{In: 9, Out: 1, Swap: 1}, s[:12]); c != 108 || !ok || e != api.OK {
		t.Error(c, ok, e)
	}
	s = append(slices.Repeat([]edits.Edit{{Kind: 3, Byte: 122}}, 12), slices.Repeat([]edits.Edit{{Kind: 2}}, 12)...)
	if c, ok, e := edits.Check("aaaaaaaaaaaa", "zzzzzzzzzzzz", edits.Prices{In: 9, Out: 8, Swap: 1}, s); c != 204 || !ok || e != api.OK {
		t.Error(c, ok, e)
	}
}

// P9.3

func checkHeights(t *testing.T, a, b string, p edits.Prices, h [][]int) {
	t.Helper()
	want := plainAreHeights(a, b, p, h)
	last := 0
	if want {
		last = h[len(a)][len(b)]
	}
	if c, ok, e := edits.CheckHeights(a, b, p, h); c != last || ok != want || e != api.OK {
		t.Fatalf("CheckHeights %q %q %v %v: %v %v %v", a, b, p, h, c, ok, e)
	}
}

func TestHeightsOfTwoBytes(t *testing.T) {
	for _, b := range []string{"a", "b"} {
		for _, p := range fewPrices[1:5] {
			for x := -2; x <= 7; x++ {
				for y := -2; y <= 7; y++ {
					for z := -3; z <= 9; z++ {
						checkHeights(t, "a", b, p, [][]int{{0, x}, {y, z}})
					}
				}
			}
		}
	}
}

// Heights with one number more or less at each place: some are heights still, and some are not.
func TestHeightsWithAnotherNumber(t *testing.T) {
	for number := range 500 {
		a, b := somePair(number)
		p := pricesOf(scattered(number, 729))
		h := must[[][]int](t)(edits.Heights(a, b, p))
		for i := range h {
			for j := range h[i] {
				kept := h[i][j]
				for _, x := range []int{kept - 1, kept + 1, kept - 9, kept + 9, -1001, -1000, 1000, 1001} {
					h[i][j] = x
					checkHeights(t, a, b, p, h)
				}
				h[i][j] = kept
			}
		}
	}
}

func TestHeightsOfExamples(t *testing.T) {
	p := edits.Prices{In: 2, Out: 3, Swap: 4}
	for _, x := range []struct {
		a, b string
		h    [][]int
		last int
		ok   bool
	}{
		{"", "", [][]int{{0}}, 0, true},
		{"", "", [][]int{{1}}, 0, false},
		{"", "", [][]int{{-1}}, 0, false},
		{"", "", [][]int{{}}, 0, false},
		{"", "", [][]int{nil}, 0, false},
		{"", "", [][]int{}, 0, false},
		{"", "", nil, 0, false},
		{"", "", [][]int{{0, 0}}, 0, false},
		{"", "", [][]int{{0}, {0}}, 0, false},
		{"", "a", [][]int{{0, 2}}, 2, true},
		{"", "a", [][]int{{0, 3}}, 0, false},
		{"", "a", [][]int{{0, -1000}}, -1000, true},
		{"", "a", [][]int{{0, -1001}}, 0, false},
		{"", "a", [][]int{{0}, {2}}, 0, false},
		{"a", "", [][]int{{0}, {3}}, 3, true},
		{"a", "", [][]int{{0}, {4}}, 0, false},
		{"a", "", [][]int{{0, 3}}, 0, false},
		{"a", "a", [][]int{{0, 2}, {3, 0}}, 0, true},
		{"a", "a", [][]int{{0, 2}, {3, 1}}, 0, false},
		{"a", "b", [][]int{{0, 2}, {3, 4}}, 4, true},
		{"a", "b", [][]int{{0, 2}, {3, 5}}, 0, false},
		{"a", "b", [][]int{{0, 0}, {0, 2}}, 2, true},
		{"a", "b", [][]int{{0, 0}, {0, 3}}, 0, false},
		{"a", "b", [][]int{{0, 2}, {3}}, 0, false},
		{"a", "b", [][]int{{0, 2}, {3, 4}, {0, 0}}, 0, false},
		{"ab", "b", [][]int{{0, -5}, {-1000, -1000}, {-997, -1000}}, -1000, true},
		{"ab", "b", [][]int{{0, -5}, {-1000, -1000}, {-997, -999}}, 0, false},
	} {
		if c, ok, e := edits.CheckHeights(x.a, x.b, p, x.h); c != x.last || ok != x.ok || e != api.OK {
			t.Error(x, c, ok, e)
		}
	}
}

// P9.5

func TestCommonAndJoinedOfShortLines(t *testing.T) {
	for _, x := range []struct {
		alphabet string
		most     int
	}{{"ab", 4}, {"\x7f\x80", 4}, {"\xff\x00", 4}, {"abc", 3}, {"\xe2\x00z", 3}} {
		lines := allLines(x.alphabet, x.most)
		for _, a := range lines {
			for _, b := range lines {
				if l, e := edits.Common(a, b); l != plainCommon(a, b) || e != api.OK {
					t.Fatalf("Common %q %q: %q %v", a, b, l, e)
				}
				want := plainJoined(a, b, x.alphabet)
				if l := plainJoinedLong(a, b); l != want {
					t.Fatalf("the plain functions differ %q %q: %q", a, b, l)
				}
				if l, e := edits.Joined(a, b); l != want || e != api.OK {
					t.Fatalf("Joined %q %q: %q %v", a, b, l, e)
				}
			}
		}
	}
}

func TestCommonAndJoinedOfLongLines(t *testing.T) {
	for number := range 1500 {
		a, b := somePair(number)
		if l, e := edits.Common(a, b); l != plainCommon(a, b) || e != api.OK {
			t.Fatalf("Common %q %q: %q %v", a, b, l, e)
		}
		if l, e := edits.Joined(a, b); l != plainJoinedLong(a, b) || e != api.OK {
			t.Fatalf("Joined %q %q: %q %v", a, b, l, e)
		}
	}
}

func TestCommonAndJoinedOfExamples(t *testing.T) {
	for _, x := range [][4]string{
		{"kitten", "sitting", "ittn", "ksitteing"},
		{"ab", "ba", "a", "aba"},
		{"ba", "ab", "a", "aba"},
		{"\x80a", "a\x80", "a", "a\x80a"},
		{"", "", "", ""},
		{"", "xyz", "", "xyz"},
		{"xyz", "", "", "xyz"},
		{"xyz", "xyz", "xyz", "xyz"},
		{"b", "a", "", "ab"},
		{"cab", "abc", "ab", "cabc"},
		{"abab", "baba", "aba", "ababa"},
		{"aaaaaaaaaaaa", "bbbbbbbbbbbb", "", "aaaaaaaaaaaabbbbbbbbbbbb"},
		{"bbbbbbbbbbbb", "aaaaaaaaaaaa", "", "aaaaaaaaaaaabbbbbbbbbbbb"},
	} {
		if l, e := edits.Common(x[0], x[1]); l != x[2] || e != api.OK {
			t.Errorf("Common %q %q", x, l)
		}
		if l, e := edits.Joined(x[0], x[1]); l != x[3] || e != api.OK {
			t.Errorf("Joined %q %q", x, l)
		}
	}
}

// P9.6

func checkOver(t *testing.T, a, b []int, cost int, way [][2]int) {
	t.Helper()
	if c, e := edits.Over(a, b); c != cost || e != api.OK {
		t.Fatal("Over", a, b, c, e, "not", cost)
	}
	if l, e := edits.OverWay(a, b); !slices.Equal(l, way) || e != api.OK {
		t.Fatal("OverWay", a, b, l, e, "not", way)
	}
}

func TestOverOfShortMelodies(t *testing.T) {
	melodies := allMelodies([]int{-1000, 0, 1}, 4)
	ways := map[[2]int][][][2]int{}
	for a := range 4 {
		for b := range 4 {
			ways[[2]int{a + 1, b + 1}] = plainWaysOver(a+1, b+1)
		}
	}
	for _, a := range melodies {
		for _, b := range melodies {
			list := ways[[2]int{len(a), len(b)}]
			best := slices.MinFunc(list, func(x, y [][2]int) int { return plainCostOver(a, b, x) - plainCostOver(a, b, y) })
			checkOver(t, a, b, plainCostOver(a, b, best), best)
		}
	}
}

func TestOverOfLongMelodies(t *testing.T) {
	for a, b := range somePairsOver(1500) {
		cost, way := plainOver(a, b)
		checkOver(t, a, b, cost, way)
	}
}

func TestOverOfExamples(t *testing.T) {
	for _, x := range []struct {
		a, b []int
		cost int
		way  [][2]int
	}{
		{[]int{1, 3}, []int{1, 1, 3}, 0, [][2]int{{0, 0}, {0, 1}, {1, 2}}},
		{[]int{0}, []int{2, 3}, 5, [][2]int{{0, 0}, {0, 1}}},
		{[]int{2, 3}, []int{0}, 5, [][2]int{{0, 0}, {1, 0}}},
		{[]int{5}, []int{-5}, 10, [][2]int{{0, 0}}},
		{[]int{1, 1}, []int{1, 1}, 0, [][2]int{{0, 0}, {0, 1}, {1, 1}}},
		{[]int{0, 1}, []int{0, 1}, 0, [][2]int{{0, 0}, {1, 1}}},
		{[]int{0, 1}, []int{1, 0}, 2, [][2]int{{0, 0}, {0, 1}, {1, 1}}},
		{[]int{0, 2}, []int{2, 1}, 3, [][2]int{{0, 0}, {1, 0}, {1, 1}}},
		{slices.Repeat([]int{1000}, 12), slices.Repeat([]int{-1000}, 12), 24000, nil},
		{slices.Repeat([]int{-1000}, 12), slices.Repeat([]int{1000}, 1), 24000, nil},
	} {
		if x.way == nil {
			_, x.way = plainOver(x.a, x.b)
		}
		checkOver(t, x.a, x.b, x.cost, x.way)
	}
}

// P9.7

func TestWithin(t *testing.T) {
	for number := range 120 {
		p := pricesOf(scattered(number, 729))
		a, b := somePair(number)
		list := []string{b}
		for i := range scattered(number, 20) {
			list = append(list, someLine(alphabets[number%len(alphabets)], number+i))
		}
		var costs []int
		for _, line := range list {
			cost, _ := plainLeast(a, line, p)
			costs = append(costs, cost)
		}
		for most := number % 3; most <= 100; most += 3 {
			var want []int
			for i, cost := range costs {
				if cost <= most {
					want = append(want, i)
				}
			}
			if l, e := edits.Within(a, p, most, list); !slices.Equal(l, want) || e != api.OK {
				t.Fatal(a, p, most, list, l, e, "not", want)
			}
		}
	}
}

func TestWithinOfExamples(t *testing.T) {
	p := edits.Prices{In: 1, Out: 2, Swap: 4}
	list := []string{"ab", "", "abc", "b", "ab", "x"}
	for _, x := range []struct {
		most int
		want []int
	}{
		{0, []int{0, 4}},
		{1, []int{0, 2, 4}},
		{2, []int{0, 2, 3, 4}},
		{3, []int{0, 2, 3, 4}},
		{4, []int{0, 1, 2, 3, 4}},
		{5, []int{0, 1, 2, 3, 4, 5}},
		{100, []int{0, 1, 2, 3, 4, 5}},
	} {
		if l, e := edits.Within("ab", p, x.most, list); !slices.Equal(l, x.want) || e != api.OK {
			t.Error(x, l, e)
		}
	}
	full := []string{"aaaaaaaaaaaa", "aaaaaaaaaaa"}
	if l, e := edits.Within("", edits.Prices{In: 9, Out: 1, Swap: 1}, 99, full); !slices.Equal(l, []int{1}) || e != api.OK {
		t.Error(l, e)
	}
	if l, e := edits.Within("", edits.Prices{In: 1, Out: 9, Swap: 9}, 12, full); !slices.Equal(l, []int{0, 1}) || e != api.OK {
		t.Error(l, e)
	}
	if l, e := edits.Within("a", p, 100, nil); len(l) != 0 || e != api.OK {
		t.Error(l, e)
	}
}
