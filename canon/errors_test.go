package canon_test

import (
	"slices"
	"testing"

	"sackbut/api"
	"sackbut/canon"
)

// expect says whether a call had to give ErrArg, and that an error comes with zero values only.
func expect(t *testing.T, name string, right bool, e api.Errno, zero bool, arguments ...int) {
	t.Helper()
	if right && e == api.ErrArg || !right && e != api.ErrArg {
		t.Fatal(name, arguments, "error", e)
	}
	if e != api.OK && !zero {
		t.Fatal(name, arguments, "a result besides the error", e)
	}
}

func TestOddRhythms(t *testing.T) {
	for _, n := range odd {
		for _, a := range odd {
			right := plainValid(n, a)
			x, e := canon.Partner(n, a)
			expect(t, "Partner", right, e, x == 0, n, a)
			x, e = canon.Partners(n, a)
			expect(t, "Partners", right, e, x == 0, n, a)
			x, e = canon.Period(n, a)
			expect(t, "Period", right, e, x == 0, n, a)
			l, e := canon.Roots(n, a)
			expect(t, "Roots", right, e, len(l) == 0, n, a)
			ok, e := canon.First(n, a)
			expect(t, "First", right, e, !ok, n, a)
			ok, e = canon.Second(n, a)
			expect(t, "Second", right, e, !ok, n, a)
			x, e = canon.Build(n, a)
			expect(t, "Build", right, e, x == 0, n, a)
		}
	}
}

func TestOddThirdArguments(t *testing.T) {
	for _, n := range odd {
		for _, a := range odd {
			for _, x := range odd {
				ok, e := canon.Tiles(n, a, x)
				expect(t, "Tiles", plainValid(n, a, x), e, !ok, n, a, x)
				f, e := canon.Fold(n, a, x)
				expect(t, "Fold", plainValid(n, a) && x >= 2 && plainIsPeriod(n, a, x), e, f == 0, n, a, x)
			}
		}
	}
}

func TestOddEntries(t *testing.T) {
	for _, n := range odd {
		for _, a := range []int{-1, 0, 1, 3, 4, 7, 15, 4095, 1 << 24} {
			for _, b := range []int{-1, 0, 1, 3, 5, 6, 85, 1<<24 - 1, 1 << 24} {
				for _, beat := range odd {
					y, e := canon.Enter(n, a, b, beat)
					expect(t, "Enter", plainValid(n, a, b) && beat >= 0 && beat < n, e, y == 0, n, a, b, beat)
				}
			}
		}
	}
}

func TestOddLists(t *testing.T) {
	for _, n := range odd {
		l, e := canon.Plain(n)
		expect(t, "Plain", n >= 2 && n <= 16, e, len(l) == 0, n)
		for _, size := range odd {
			l, e := canon.List(n, size)
			expect(t, "List", n >= 2 && n <= 16 && size >= 1 && size <= n, e, len(l) == 0, n, size)
		}
	}
}

// The circles and rhythms next to the limits.

func TestLimits(t *testing.T) {
	for n := 2; n <= 24; n++ {
		all := 1<<n - 1
		if b, e := canon.Partner(n, all); b != 1 || e != api.OK {
			t.Error(n, b, e)
		}
		for _, bad := range []int{-1, 0, 2, all - 1, all + 1, all + 2, -all} {
			if b, e := canon.Partner(n, bad); b != 0 || e != api.ErrArg {
				t.Error(n, bad, b, e)
			}
			if ok, e := canon.Tiles(n, 1, bad); ok || e != api.ErrArg {
				t.Error(n, bad, ok, e)
			}
			if ok, e := canon.Tiles(n, bad, 1); ok || e != api.ErrArg {
				t.Error(n, bad, ok, e)
			}
			if y, e := canon.Enter(n, 1, bad, 0); y != 0 || e != api.ErrArg {
				t.Error(n, bad, y, e)
			}
			if y, e := canon.Enter(n, bad, 1, 0); y != 0 || e != api.ErrArg {
				t.Error(n, bad, y, e)
			}
		}
	}
	for _, n := range []int{-2, -1, 0, 1, 25, 26} {
		if b, e := canon.Partner(n, 1); b != 0 || e != api.ErrArg {
			t.Error(n, b, e)
		}
	}
	for n := 17; n <= 24; n++ {
		if l, e := canon.Plain(n); len(l) != 0 || e != api.ErrArg {
			t.Error(n, l, e)
		}
		if l, e := canon.List(n, 1); len(l) != 0 || e != api.ErrArg {
			t.Error(n, l, e)
		}
	}
}

// A caller may change what it got, and gets the same again (Rules 2 and 4).

func TestResultsAreNew(t *testing.T) {
	for name, call := range map[string]func() ([]int, api.Errno){
		"Roots": func() ([]int, api.Errno) { return canon.Roots(24, 1<<24-1) },
		"List":  func() ([]int, api.Errno) { return canon.List(12, 4) },
	} {
		first := must[[]int](t)(call())
		kept := slices.Clone(first)
		for i := range first {
			first[i] = -1
		}
		if again := must[[]int](t)(call()); !slices.Equal(again, kept) {
			t.Error(name, again, kept)
		}
	}
}
