package canon_test

import (
	"slices"
	"testing"

	"sackbut/api"
	"sackbut/canon"
)

// tiled are tilings as the package finds them: all of the small circles, and some of the great ones.
func tiled(t *testing.T) []tiling {
	t.Helper()
	list := slices.Collect(tilings)
	for n := 2; n <= 12; n++ {
		for a := 1; a < 1<<n; a += 2 {
			if must[int](t)(canon.Partners(n, a)) == 0 {
				continue
			}
			for b := 1; b < 1<<n; b += 2 {
				if must[bool](t)(canon.Tiles(n, a, b)) {
					list = append(list, tiling{n, a, b})
				}
			}
		}
	}
	for x := range tilings {
		if b, e := canon.Partner(x.n, x.a); e == api.OK {
			list = append(list, tiling{x.n, x.a, b})
		}
	}
	return list
}

// differences returns, for each difference, of how many pairs of beats it is one.
func differences(n, a int) []int {
	counts := make([]int, n)
	for _, x := range plainBeats(n, a) {
		for _, y := range plainBeats(n, a) {
			counts[plainModulo(x-y, n)]++
		}
	}
	return counts
}

// P2.8

func TestTilings(t *testing.T) {
	for _, x := range tiled(t) {
		if len(plainBeats(x.n, x.a))*len(plainBeats(x.n, x.b)) != x.n {
			t.Fatal(x, "numbers of beats")
		}
		ofA, ofB := differences(x.n, x.a), differences(x.n, x.b)
		for d := 1; d < x.n; d++ {
			if ofA[d] != 0 && ofB[d] != 0 {
				t.Fatal(x, "both have the difference", d)
			}
		}
		rootsA := must[[]int](t)(canon.Roots(x.n, x.a))
		rootsB := must[[]int](t)(canon.Roots(x.n, x.b))
		for s := 2; s <= x.n; s++ {
			if x.n%s == 0 && !slices.Contains(rootsA, s) && !slices.Contains(rootsB, s) {
				t.Fatal(x, "no root of either", s)
			}
		}
	}
}

// P2.9

func TestConditions(t *testing.T) {
	for n, a := range samples {
		both := must[bool](t)(canon.First(n, a)) && must[bool](t)(canon.Second(n, a))
		_, e := canon.Partner(n, a)
		if both != (e == api.OK) {
			t.Fatal(n, a, "conditions", both, "but Partner", e)
		}
		b, e := canon.Build(n, a)
		if both != (e == api.OK) {
			t.Fatal(n, a, "conditions", both, "but Build", e)
		}
		if both && !must[bool](t)(canon.Tiles(n, a, b)) {
			t.Fatal(n, a, b, "do not tile")
		}
	}
}

// P2.10

func TestPlainRhythmsDoNotTile(t *testing.T) {
	for n := 2; n <= 16; n++ {
		if l, e := canon.Plain(n); len(l) != 0 || e != api.OK {
			t.Error(n, l, e)
		}
	}
	for _, x := range tiled(t) {
		if must[int](t)(canon.Period(x.n, x.a)) == x.n && must[int](t)(canon.Period(x.n, x.b)) == x.n {
			t.Fatal(x, "both are plain")
		}
	}
}

func TestFoldKeepsWhetherThereIsAPartner(t *testing.T) {
	for n := 2; n <= 24; n++ {
		for d := 2; d < n; d++ {
			if n%d != 0 {
				continue
			}
			step := 1<<d/300 | 1
			for part := 1; part < 1<<d; part += step + 1 {
				a := 0
				for k := 0; k < n; k += d {
					a |= part << k
				}
				if folded := must[int](t)(canon.Fold(n, a, d)); folded != part {
					t.Fatal(n, a, d, folded)
				}
				_, e := canon.Partner(n, a)
				if _, foldedE := canon.Partner(d, part); e != foldedE {
					t.Fatal(n, a, d, e, foldedE)
				}
			}
		}
	}
}

// P2.11

func TestTurningKeepsPartners(t *testing.T) {
	for n, a := range samples {
		count := must[int](t)(canon.Partners(n, a))
		if turned := must[int](t)(canon.Partners(n, plainMap(n, a, -1, 0))); turned != count {
			t.Fatal(n, a, count, turned)
		}
	}
}

func TestMultiplyingKeepsTilings(t *testing.T) {
	for _, x := range tiled(t) {
		for m := 1; m < x.n; m++ {
			if plainCoprime(m, x.n) && !must[bool](t)(canon.Tiles(x.n, plainMap(x.n, x.a, m, 0), x.b)) {
				t.Fatal(x, m)
			}
		}
	}
}

// P2.12

func TestEntries(t *testing.T) {
	for _, x := range tiled(t) {
		for beat := range x.n {
			var want []int
			for _, y := range plainBeats(x.n, x.b) {
				if x.a&(1<<plainModulo(beat-y, x.n)) != 0 {
					want = append(want, y)
				}
			}
			if len(want) != 1 {
				t.Fatal(x, beat, want)
			}
			if y, e := canon.Enter(x.n, x.a, x.b, beat); y != want[0] || e != api.OK {
				t.Fatal(x, beat, y, e)
			}
		}
	}
}
