package edits_test

import (
	"slices"
	"testing"

	"sackbut/api"
	"sackbut/edits"
)

// pairsOfLines yields all pairs of short lines, then some of any length.
func pairsOfLines(most int) func(func(a, b string) bool) {
	return func(yield func(a, b string) bool) {
		lines := allLines("ab", 3)
		for _, a := range lines {
			for _, b := range lines {
				if !yield(a, b) {
					return
				}
			}
		}
		for number := range most {
			a, b := somePair(number)
			if !yield(a, b) {
				return
			}
		}
	}
}

// exchanged are prices with In and Out exchanged.
func exchanged(p edits.Prices) edits.Prices {
	return edits.Prices{In: p.Out, Out: p.In, Swap: p.Swap}
}

// P8 and P9.8

func TestScriptsAndHeightsHaveTheCost(t *testing.T) {
	number := 0
	for a, b := range pairsOfLines(1500) {
		for _, p := range slices.Concat(fewPrices, []edits.Prices{pricesOf(scattered(number, 729))}) {
			cost := must[int](t)(edits.Cost(a, b, p))
			s := must[[]edits.Edit](t)(edits.Script(a, b, p))
			if c, ok, e := edits.Check(a, b, p, s); c != cost || !ok || e != api.OK {
				t.Fatal("Check", a, b, p, s, c, ok, e)
			}
			if came, e := edits.Apply(a, s); came != b || e != api.OK {
				t.Fatal("Apply", a, b, p, s, came, e)
			}
			h := must[[][]int](t)(edits.Heights(a, b, p))
			if c, ok, e := edits.CheckHeights(a, b, p, h); c != cost || !ok || e != api.OK {
				t.Fatal("CheckHeights", a, b, p, h, c, ok, e)
			}
		}
		number++
	}
}

// Heights are no higher at their end than any script costs: those for lower prices, and those that are lowered here and there.
func TestNoHeightsAreAboveScripts(t *testing.T) {
	accepted := 0
	for number := range 600 {
		a, b := somePair(number)
		p := pricesOf(scattered(number, 729))
		cost := must[int](t)(edits.Cost(a, b, p))
		for other := range 20 {
			h := must[[][]int](t)(edits.Heights(a, b, pricesOf(scattered(number*20+other, 729))))
			for i := range h {
				for j := range h[i] {
					if i+j > 0 && other%2 == 1 {
						h[i][j] += scattered(number+other*29+i*13+j, 4) - 2
					}
				}
			}
			c, ok := checkedHeights(t, a, b, p, h)
			if ok {
				accepted++
			}
			if ok && c > cost {
				t.Fatal(a, b, p, h, c, cost)
			}
		}
	}
	if accepted < 500 {
		t.Error("few heights were accepted", accepted)
	}
}

func checkedHeights(t *testing.T, a, b string, p edits.Prices, h [][]int) (int, bool) {
	t.Helper()
	c, ok, e := edits.CheckHeights(a, b, p, h)
	if e != api.OK {
		t.Fatal("CheckHeights", a, b, p, h, e)
	}
	return c, ok
}

func TestAllHeightsOfShortLines(t *testing.T) {
	p := edits.Prices{In: 1, Out: 2, Swap: 2}
	for _, lines := range [][2]string{{"a", "a"}, {"a", "b"}, {"ab", "b"}, {"a", "ba"}} {
		a, b := lines[0], lines[1]
		cost := must[int](t)(edits.Cost(a, b, p))
		highest := -1000
		wide := len(b) + 1
		numbers := make([]int, (len(a)+1)*wide-1)
		var fill func(at int)
		fill = func(at int) {
			if at < len(numbers) {
				for x := -1; x <= 4; x++ {
					numbers[at] = x
					fill(at + 1)
				}
				return
			}
			all := slices.Concat([]int{0}, numbers)
			if c, ok := checkedHeights(t, a, b, p, slices.Collect(slices.Chunk(all, wide))); ok {
				highest = max(highest, c)
			}
		}
		fill(0)
		if highest != cost {
			t.Error(lines, highest, cost)
		}
	}
}

// P9.9

func TestCostBothWays(t *testing.T) {
	for a, b := range pairsOfLines(2000) {
		for _, p := range fewPrices {
			cost := must[int](t)(edits.Cost(a, b, p))
			if other := must[int](t)(edits.Cost(b, a, exchanged(p))); other != cost {
				t.Fatal(a, b, p, cost, other)
			}
			if (cost == 0) != (a == b) || cost < 0 {
				t.Fatal(a, b, p, cost)
			}
		}
	}
}

func TestCostByWayOfAThirdLine(t *testing.T) {
	check := func(a, b, c string, p edits.Prices) {
		t.Helper()
		way := must[int](t)(edits.Cost(a, b, p)) + must[int](t)(edits.Cost(b, c, p))
		if cost := must[int](t)(edits.Cost(a, c, p)); cost > way {
			t.Fatal(a, b, c, p, cost, way)
		}
	}
	lines := allLines("ab", 3)
	for _, a := range lines {
		for _, b := range lines {
			for _, c := range lines {
				for _, p := range fewPrices {
					check(a, b, c, p)
				}
			}
		}
	}
	for number := range 1000 {
		a, b := somePair(number)
		third := someLine(alphabets[number%len(alphabets)], number)
		for _, p := range fewPrices {
			check(a, b, third, p)
			check(a, third, b, p)
			check(third, a, b, p)
		}
	}
}

func TestCostOfMultipliedPrices(t *testing.T) {
	for a, b := range pairsOfLines(300) {
		for p := range allPrices {
			if max(p.In, p.Out, p.Swap) > 3 {
				continue
			}
			cost := must[int](t)(edits.Cost(a, b, p))
			for factor := 2; factor*max(p.In, p.Out, p.Swap) <= 9; factor++ {
				dear := edits.Prices{In: factor * p.In, Out: factor * p.Out, Swap: factor * p.Swap}
				if c := must[int](t)(edits.Cost(a, b, dear)); c != factor*cost {
					t.Fatal(a, b, p, factor, c, cost)
				}
			}
		}
	}
}

// P9.10

func TestCommonAndCost(t *testing.T) {
	for a, b := range pairsOfLines(3000) {
		common := must[string](t)(edits.Common(a, b))
		joined := must[string](t)(edits.Joined(a, b))
		if !plainComes(common, a) || !plainComes(common, b) || !plainComes(a, joined) || !plainComes(b, joined) {
			t.Fatalf("%q %q: %q %q", a, b, common, joined)
		}
		if len(joined) != len(a)+len(b)-len(common) {
			t.Fatalf("%q %q: %q %q", a, b, common, joined)
		}
		for swap := 2; swap <= 9; swap++ {
			cost := must[int](t)(edits.Cost(a, b, edits.Prices{In: 1, Out: 1, Swap: swap}))
			if cost != len(a)+len(b)-2*len(common) {
				t.Fatalf("%q %q %v: %q %v", a, b, swap, common, cost)
			}
		}
		if other := must[string](t)(edits.Common(b, a)); other != common {
			t.Fatalf("Common both ways %q %q: %q %q", a, b, common, other)
		}
		if other := must[string](t)(edits.Joined(b, a)); other != joined {
			t.Fatalf("Joined both ways %q %q: %q %q", a, b, joined, other)
		}
	}
}

// P9.11

func TestOverIsZero(t *testing.T) {
	melodies := allMelodies([]int{-1, 0, 1000}, 4)
	for _, a := range melodies {
		for _, b := range melodies {
			same := slices.Equal(slices.Compact(slices.Clone(a)), slices.Compact(slices.Clone(b)))
			if cost := must[int](t)(edits.Over(a, b)); (cost == 0) != same || cost < 0 {
				t.Fatal(a, b, cost)
			}
		}
	}
	for a, b := range somePairsOver(3000) {
		same := slices.Equal(slices.Compact(slices.Clone(a)), slices.Compact(slices.Clone(b)))
		if cost := must[int](t)(edits.Over(a, b)); (cost == 0) != same || cost < 0 {
			t.Fatal(a, b, cost)
		}
	}
}

// raised returns a melody that is greater by a number.
func raised(melody []int, by int) []int {
	var list []int
	for _, x := range melody {
		list = append(list, x+by)
	}
	return list
}

func backward(melody []int) []int {
	list := slices.Clone(melody)
	slices.Reverse(list)
	return list
}

func TestOverStays(t *testing.T) {
	for a, b := range somePairsOver(3000) {
		cost := must[int](t)(edits.Over(a, b))
		if other := must[int](t)(edits.Over(b, a)); other != cost {
			t.Fatal("both ways", a, b, cost, other)
		}
		if other := must[int](t)(edits.Over(backward(a), backward(b))); other != cost {
			t.Fatal("backward", a, b, cost, other)
		}
		low, high := min(slices.Min(a), slices.Min(b)), max(slices.Max(a), slices.Max(b))
		for _, by := range []int{-1000 - low, -1, 1, 1000 - high} {
			if low+by < -1000 || high+by > 1000 {
				continue
			}
			if other := must[int](t)(edits.Over(raised(a, by), raised(b, by))); other != cost {
				t.Fatal("raised", a, b, by, cost, other)
			}
		}
	}
}

func TestOverWayIsAWay(t *testing.T) {
	for a, b := range somePairsOver(3000) {
		way := must[[][2]int](t)(edits.OverWay(a, b))
		if !plainIsWay(a, b, way) {
			t.Fatal(a, b, way)
		}
		if cost := must[int](t)(edits.Over(a, b)); plainCostOver(a, b, way) != cost {
			t.Fatal(a, b, way, cost)
		}
	}
}

// P9.12

func TestWaysBothWays(t *testing.T) {
	for a, b := range pairsOfLines(2000) {
		for _, p := range fewPrices {
			ways := must[int](t)(edits.Ways(a, b, p))
			if other := must[int](t)(edits.Ways(b, a, exchanged(p))); other != ways || ways < 1 {
				t.Fatal(a, b, p, ways, other)
			}
		}
	}
}

// The same calls give the same results (Rule 2), also those that are free.
func TestSameResults(t *testing.T) {
	for number := range 200 {
		a, b := somePair(number)
		p := fewPrices[number%len(fewPrices)]
		s, h := must[[]edits.Edit](t)(edits.Script(a, b, p)), must[[][]int](t)(edits.Heights(a, b, p))
		for range 5 {
			if other := must[[]edits.Edit](t)(edits.Script(a, b, p)); !slices.Equal(s, other) {
				t.Fatal(a, b, p, s, other)
			}
			if other := must[[][]int](t)(edits.Heights(a, b, p)); !slices.EqualFunc(h, other, slices.Equal) {
				t.Fatal(a, b, p, h, other)
			}
		}
	}
}
