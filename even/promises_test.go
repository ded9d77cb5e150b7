package even_test

import (
	"slices"
	"testing"

	"sackbut/api"
	"sackbut/even"
)

// evenScales yields all even scales of all circles.
func evenScales(t *testing.T) func(yield func(n, scale int) bool) {
	return func(yield func(n, scale int) bool) {
		for n := 2; n <= 16; n++ {
			for scale := 1; scale < 1<<n; scale++ {
				if must[bool](t)(even.Even(n, scale)) && !yield(n, scale) {
					return
				}
			}
		}
	}
}

// P3.8

func TestSpreadIsEven(t *testing.T) {
	for n := 2; n <= 16; n++ {
		for k := 1; k <= n; k++ {
			for m := range n {
				scale := must[int](t)(even.Spread(n, k, m))
				if len(plainTones(n, scale)) != k || !must[bool](t)(even.Even(n, scale)) {
					t.Fatal(n, k, m, scale)
				}
			}
		}
	}
}

func TestEvenScalesAreMovedSpreads(t *testing.T) {
	counts := map[[2]int]int{}
	for n, scale := range evenScales(t) {
		k := len(plainTones(n, scale))
		counts[[2]int{n, k}]++
		is := func(move int) bool {
			for m := range n {
				if plainMap(n, must[int](t)(even.Spread(n, k, m)), 1, move) == scale {
					return true
				}
			}
			return false
		}
		found := false
		for move := 0; move < n && !found; move++ {
			found = is(move)
		}
		if !found {
			t.Fatal(n, scale, "is no moved Spread")
		}
	}
	for n := 2; n <= 16; n++ {
		for k := 1; k <= n; k++ {
			if count := counts[[2]int{n, k}]; count != n/plainGCD(n, k) {
				t.Error(n, k, count)
			}
		}
	}
}

func TestListHasAllMovedOnes(t *testing.T) {
	for n := 2; n <= 16; n++ {
		for k := 1; k <= n; k++ {
			list := must[[]int](t)(even.List(n, k))
			if len(list) != n/plainGCD(n, k) {
				t.Fatal(n, k, list)
			}
			var moved []int
			for move := range n {
				moved = append(moved, plainMap(n, list[0], 1, move))
			}
			slices.Sort(moved)
			if !slices.Equal(slices.Compact(moved), list) {
				t.Fatal(n, k, list)
			}
		}
	}
}

func TestStrokesAreEven(t *testing.T) {
	for n := 2; n <= 16; n++ {
		for k := 1; k <= n; k++ {
			scale := 0
			for x, stroke := range must[[]int](t)(even.Strokes(n, k)) {
				scale |= stroke << x
			}
			if len(plainTones(n, scale)) != k || !must[bool](t)(even.Even(n, scale)) {
				t.Fatal(n, k, scale)
			}
		}
	}
}

// P3.9

func TestOtherTonesAreEven(t *testing.T) {
	for n, scale := range evenScales(t) {
		if others := 1<<n - 1 - scale; others != 0 && !must[bool](t)(even.Even(n, others)) {
			t.Fatal(n, scale, others)
		}
	}
}

// P3.10

func TestEvenScalesAreMadeByAStep(t *testing.T) {
	for n, scale := range evenScales(t) {
		k := len(plainTones(n, scale))
		if plainGCD(n, k) != 1 {
			continue
		}
		g, e := even.Maker(n, scale)
		if e != api.OK {
			t.Fatal(n, scale, e)
		}
		if k >= 2 && k*g%n != 1 && k*g%n != n-1 {
			t.Fatal(n, scale, k, g)
		}
	}
}

// P3.11

func TestEvenScalesHaveTheTwoSizes(t *testing.T) {
	for n, scale := range evenScales(t) {
		k := len(plainTones(n, scale))
		if k >= 2 && k < n && plainGCD(n, k) == 1 && !must[bool](t)(even.Two(n, scale)) {
			t.Fatal(n, scale)
		}
	}
}

func TestScalesOfTwoSizesAreMadeByAStep(t *testing.T) {
	for n := 2; n <= 16; n++ {
		for scale := 1; scale < 1<<n; scale++ {
			if !must[bool](t)(even.Two(n, scale)) {
				continue
			}
			if g, e := even.Maker(n, scale); e != api.OK {
				t.Fatal(n, scale, g, e)
			}
		}
	}
}

// P3.12

func TestMostIsList(t *testing.T) {
	for n := 2; n <= 16; n++ {
		for k := 1; k <= n; k++ {
			most, list := must[[]int](t)(even.Most(n, k)), must[[]int](t)(even.List(n, k))
			if !slices.Equal(most, list) {
				t.Fatal(n, k, most, list)
			}
		}
	}
}

func TestOtherScalesHaveLesserSums(t *testing.T) {
	for n := 2; n <= 12; n++ {
		for scale := 1; scale < 1<<n; scale++ {
			list := must[[]int](t)(even.List(n, len(plainTones(n, scale))))
			greatest := must[int](t)(even.Sum(n, list[0]))
			sum := must[int](t)(even.Sum(n, scale))
			if sum > greatest || (sum == greatest) != slices.Contains(list, scale) {
				t.Fatal(n, scale, sum, greatest)
			}
		}
	}
}

// P3.13

func TestImagesKeep(t *testing.T) {
	for n, scale := range samples {
		is, sum := must[bool](t)(even.Even(n, scale)), must[int](t)(even.Sum(n, scale))
		spans := allSpans(t, n, scale)
		for move := range n {
			for _, m := range []int{1, -1} {
				image := plainMap(n, scale, m, move)
				if must[bool](t)(even.Even(n, image)) != is || must[int](t)(even.Sum(n, image)) != sum {
					t.Fatal(n, scale, image, is, sum)
				}
				if n <= 8 || move == n/2 {
					if again := allSpans(t, n, image); !slices.EqualFunc(spans, again, slices.Equal) {
						t.Fatal(n, scale, image, spans, again)
					}
				}
			}
		}
	}
}

func allSpans(t *testing.T, n, scale int) [][]int {
	t.Helper()
	var list [][]int
	for j := 1; j < len(plainTones(n, scale)); j++ {
		list = append(list, must[[]int](t)(even.Spans(n, scale, j)))
	}
	return list
}
