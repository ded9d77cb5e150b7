package even_test

import (
	"slices"
	"testing"

	"sackbut/api"
	"sackbut/even"
)

// expect says whether a call had to give ErrArg, and that an error comes with zero values only.
func expect(t *testing.T, name string, right bool, e api.Errno, zero bool, arguments ...int) {
	t.Helper()
	if right && e == api.ErrArg || !right && e != api.ErrArg {
		t.Fatal(name, arguments, "error", e)
	}
	if e != api.OK && !zero {
		t.Fatal(name, arguments, "a result besides the error", e)
	}
}

func TestOddScales(t *testing.T) {
	for _, n := range odd {
		for _, scale := range odd {
			right := plainValid(n, scale)
			ok, e := even.Even(n, scale)
			expect(t, "Even", right, e, !ok, n, scale)
			list, e := even.Word(n, scale)
			expect(t, "Word", right, e, len(list) == 0, n, scale)
			g, e := even.Maker(n, scale)
			expect(t, "Maker", right, e, g == 0, n, scale)
			ok, e = even.Two(n, scale)
			expect(t, "Two", right, e, !ok, n, scale)
			sum, e := even.Sum(n, scale)
			expect(t, "Sum", right, e, sum == 0, n, scale)
			for _, j := range odd {
				list, e := even.Spans(n, scale, j)
				expect(t, "Spans", right && j >= 1 && j < len(plainTones(n, scale)), e, len(list) == 0, n, scale, j)
			}
		}
	}
}

func TestOddNumbersOfTones(t *testing.T) {
	for _, n := range odd {
		for _, k := range odd {
			right := n >= 2 && n <= 16 && k >= 1 && k <= n
			list, e := even.Strokes(n, k)
			expect(t, "Strokes", right, e, len(list) == 0, n, k)
			list, e = even.Most(n, k)
			expect(t, "Most", right, e, len(list) == 0, n, k)
			list, e = even.List(n, k)
			expect(t, "List", right, e, len(list) == 0, n, k)
			for _, m := range odd {
				scale, e := even.Spread(n, k, m)
				expect(t, "Spread", right && m >= 0 && m < n, e, scale == 0, n, k, m)
			}
		}
	}
}

// The circles and scales next to the limits.

func TestLimits(t *testing.T) {
	for n := 2; n <= 16; n++ {
		all := 1<<n - 1
		if ok, e := even.Even(n, all); !ok || e != api.OK {
			t.Error(n, ok, e)
		}
		for _, bad := range []int{-1, 0, all + 1, all + 2, 2*all + 1, -all} {
			if ok, e := even.Even(n, bad); ok || e != api.ErrArg {
				t.Error(n, bad, ok, e)
			}
		}
		for _, bad := range []int{-1, 0, n + 1, n + 2} {
			if list, e := even.Strokes(n, bad); len(list) != 0 || e != api.ErrArg {
				t.Error(n, bad, list, e)
			}
			if scale, e := even.Spread(n, bad, 0); scale != 0 || e != api.ErrArg {
				t.Error(n, bad, scale, e)
			}
			if list, e := even.Most(n, bad); len(list) != 0 || e != api.ErrArg {
				t.Error(n, bad, list, e)
			}
			if list, e := even.List(n, bad); len(list) != 0 || e != api.ErrArg {
				t.Error(n, bad, list, e)
			}
		}
		for _, bad := range []int{-n, -1, n, n + 1} {
			if scale, e := even.Spread(n, 1, bad); scale != 0 || e != api.ErrArg {
				t.Error(n, bad, scale, e)
			}
		}
	}
	for _, n := range []int{-2, -1, 0, 1, 17, 18} {
		if ok, e := even.Even(n, 1); ok || e != api.ErrArg {
			t.Error(n, ok, e)
		}
		if list, e := even.List(n, 1); len(list) != 0 || e != api.ErrArg {
			t.Error(n, list, e)
		}
	}
}

// A caller may change what it got, and gets the same again (Rules 2 and 4).

func TestResultsAreNew(t *testing.T) {
	for name, call := range map[string]func() ([]int, api.Errno){
		"Strokes": func() ([]int, api.Errno) { return even.Strokes(12, 7) },
		"Word":    func() ([]int, api.Errno) { return even.Word(12, 2741) },
		"Spans":   func() ([]int, api.Errno) { return even.Spans(12, 2741, 2) },
		"Most":    func() ([]int, api.Errno) { return even.Most(12, 7) },
		"List":    func() ([]int, api.Errno) { return even.List(12, 7) },
	} {
		first := must[[]int](t)(call())
		kept := slices.Clone(first)
		for i := range first {
			first[i] = -1
		}
		if again := must[[]int](t)(call()); !slices.Equal(again, kept) {
			t.Error(name, again, kept)
		}
	}
}
