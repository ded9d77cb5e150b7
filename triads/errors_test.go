package triads_test

import (
	"math"
	"slices"
	"strings"
	"testing"

	"sackbut/api"
	"sackbut/triads"
)

// expect says which error a call had to give, and that an error comes with zero values only.
func expect(t *testing.T, name string, want, e api.Errno, zero bool, arguments ...any) {
	t.Helper()
	if e != want {
		t.Fatal(name, arguments, "error", e, "not", want)
	}
	if e != api.OK && !zero {
		t.Fatal(name, arguments, "a result besides the error", e)
	}
}

// argument returns the error of a call whose arguments are right, or not.
func argument(right bool) api.Errno {
	if right {
		return api.OK
	}
	return api.ErrArg
}

// form returns the error of a call with walks: ErrForm only behind ErrArg.
func form(right bool, walks ...string) api.Errno {
	if !right {
		return api.ErrArg
	}
	for _, walk := range walks {
		if !plainIsWalk(walk) {
			return api.ErrForm
		}
	}
	return api.OK
}

// oddKinds yields Kinds of odd numbers, right ones among them.
func oddKinds(yield func(triads.Kind) bool) {
	for _, n := range odd {
		for _, a := range odd {
			for _, b := range odd {
				if !yield(triads.Kind{N: n, A: a, B: b}) {
					return
				}
			}
		}
	}
}

func TestOddKinds(t *testing.T) {
	right := 0
	for x := range oddKinds {
		want := argument(plainIsKind(x))
		if want == api.OK {
			right++
		}
		set, e := triads.Tones(x, 0)
		expect(t, "Tones", want, e, set == 0, x)
		to, e := triads.Walk(x, 0, "P")
		expect(t, "Walk", want, e, to == 0, x)
		to, e = triads.Shift(x, 0, 1, true)
		expect(t, "Shift", want, e, to == 0, x)
		walk, e := triads.Way(x, 0, 0)
		expect(t, "Way", want, e, walk == "", x)
		ok, e := triads.Alike(x, "", "")
		expect(t, "Alike", want, e, !ok, x)
		k, e := triads.Order(x, "PL")
		expect(t, "Order", want, e, k == 0, x)
		size, e := triads.Size(x)
		expect(t, "Size", want, e, size == 0, x)
		list, e := triads.Round(x, 0, "PL")
		expect(t, "Round", want, e, len(list) == 0, x)
		ok, e = triads.Tour(x, "LR")
		expect(t, "Tour", want, e, !ok, x)
		list, e = triads.Far(x, 0)
		expect(t, "Far", want, e, len(list) == 0, x)
		if want == api.ErrArg {
			found, e := triads.Find(x, 7)
			expect(t, "Find", want, e, found == 0, x)
			walk, e = triads.Tours(x)
			expect(t, "Tours", want, e, walk == "", x)
		}
	}
	if right == 0 {
		t.Error("no right Kind among the odd ones")
	}
}

// The Kinds next to the limits.

func TestKinds(t *testing.T) {
	for _, x := range []triads.Kind{{5, 1, 3}, {6, 2, 4}, {6, 1, 2}, {6, 1, 5}, {6, 4, 5}, {6, 0, 2}, {6, 2, 2}, {6, 3, 1}, {6, 2, 6}, {7, 2, 4}, {7, 2, 5}, {7, 3, 5}, {12, 4, 8}, {12, 7, 4}, {12, -5, 4}, {12, 4, 16}, {16, 1, 16}, {16, 0, 5}, {17, 1, 3}, {17, 4, 9}, {}} {
		if size, e := triads.Size(x); size != 0 || e != api.ErrArg {
			t.Error(x, size, e)
		}
	}
	for _, x := range []triads.Kind{{6, 1, 3}, {6, 1, 4}, {6, 2, 3}, {6, 2, 5}, {6, 3, 4}, {6, 3, 5}, {7, 1, 3}, {16, 1, 3}, {16, 13, 15}, {16, 1, 14}} {
		if _, e := triads.Size(x); e != api.OK {
			t.Error(x, e)
		}
	}
	for x := range kinds {
		for _, n := range []int{5, 17, -x.N, 0} {
			if size, e := triads.Size(triads.Kind{N: n, A: x.A, B: x.B}); size != 0 || e != api.ErrArg {
				t.Error(n, x, size, e)
			}
		}
	}
}

func TestOddTriads(t *testing.T) {
	for x := range kinds {
		for _, triad := range append([]int{2*x.N - 1, 2 * x.N, 2*x.N + 1}, odd...) {
			want := argument(plainIsTriad(x, triad))
			set, e := triads.Tones(x, triad)
			expect(t, "Tones", want, e, set == 0, x, triad)
			to, e := triads.Walk(x, triad, "PLR")
			expect(t, "Walk", want, e, to == 0, x, triad)
			list, e := triads.Round(x, triad, "PLR")
			expect(t, "Round", want, e, len(list) == 0, x, triad)
			list, e = triads.Far(x, triad)
			expect(t, "Far", want, e, len(list) == 0, x, triad)
			walk, e := triads.Way(x, triad, triad)
			expect(t, "Way", want, e, walk == "", x, triad)
			if want == api.ErrArg {
				walk, e = triads.Way(x, 0, triad)
				expect(t, "Way", want, e, walk == "", x, triad)
				walk, e = triads.Way(x, triad, 0)
				expect(t, "Way", want, e, walk == "", x, triad)
			}
			for _, k := range odd {
				to, e := triads.Shift(x, triad, k, k%2 == 0)
				expect(t, "Shift", want, e, to == 0, x, triad, k)
			}
		}
	}
}

func TestOddSets(t *testing.T) {
	for x := range kinds {
		all := 1<<x.N - 1
		for _, set := range append([]int{all, all + 1, 2*all + 1, -all, plainTones(x, 0) | 1<<x.N, plainTones(x, 0) | math.MinInt}, odd...) {
			want := api.ErrNone
			if set < 0 || set > all {
				want = api.ErrArg
			} else if plainFind(x, set) >= 0 {
				want = api.OK
			}
			found, e := triads.Find(x, set)
			expect(t, "Find", want, e, found == 0, x, set)
		}
	}
}

func TestOddWalks(t *testing.T) {
	kinds := []triads.Kind{twelve, {N: 16, A: 1, B: 3}, {N: 17, A: 1, B: 3}, {N: 12, A: 4, B: 8}}
	for _, x := range kinds {
		right := plainIsKind(x)
		for _, walk := range append(oddWalks, someWalks...) {
			for _, triad := range []int{-1, 0, 2*x.N - 1, 2 * x.N} {
				to, e := triads.Walk(x, triad, walk)
				expect(t, "Walk", form(plainIsTriad(x, triad), walk), e, to == 0, x, triad, walk)
			}
			ok, e := triads.Alike(x, walk, "P")
			expect(t, "Alike", form(right, walk), e, !ok, x, walk)
			ok, e = triads.Alike(x, "P", walk)
			expect(t, "Alike", form(right, walk), e, !ok, x, walk)
			ok, e = triads.Alike(x, walk, walk)
			expect(t, "Alike", form(right, walk), e, !ok, x, walk)
			k, e := triads.Order(x, walk)
			expect(t, "Order", form(right, walk), e, k == 0, x, walk)
			ok, e = triads.Tour(x, walk)
			expect(t, "Tour", form(right, walk), e, !ok, x, walk)
		}
	}
}

func TestOddSteps(t *testing.T) {
	bad := append([]string{"", "PP", "LL", "RR", "PLP", "PPL", "RLL", "PLRP", "PLRX", strings.Repeat("PLR", 20)}, oddWalks...)
	for _, steps := range bad {
		for _, triad := range []int{-1, 0, 23, 24} {
			list, e := triads.Round(twelve, triad, steps)
			expect(t, "Round", api.ErrArg, e, len(list) == 0, triad, steps)
		}
	}
	for _, steps := range plainSteps {
		for _, triad := range []int{-1, 0, 23, 24} {
			list, e := triads.Round(twelve, triad, steps)
			expect(t, "Round", argument(plainIsTriad(twelve, triad)), e, len(list) == 0, triad, steps)
		}
	}
}

// A caller may change what it got, and gets the same again (Rules 2 and 4).

func TestResultsAreNew(t *testing.T) {
	for name, call := range map[string]func() ([]int, api.Errno){
		"Round": func() ([]int, api.Errno) { return triads.Round(twelve, 5, "PL") },
		"Far":   func() ([]int, api.Errno) { return triads.Far(twelve, 5) },
	} {
		first := must[[]int](t)(call())
		kept := slices.Clone(first)
		for i := range first {
			first[i] = -1
		}
		for range 50 {
			if again := must[[]int](t)(call()); !slices.Equal(again, kept) {
				t.Error(name, again, kept)
			}
		}
	}
}
