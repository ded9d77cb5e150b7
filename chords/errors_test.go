package chords_test

import (
	"slices"
	"testing"

	"sackbut/api"
	"sackbut/chords"
)

// expect says whether a call had to give ErrArg, and that an error comes with zero values only.
func expect(t *testing.T, name string, right bool, e api.Errno, zero bool, arguments ...int) {
	t.Helper()
	if right && e == api.ErrArg || !right && e != api.ErrArg {
		t.Fatal(name, arguments, "error", e)
	}
	if e != api.OK && !zero {
		t.Fatal(name, arguments, "a result besides the error", e)
	}
}

func TestOddChords(t *testing.T) {
	for _, n := range odd {
		for _, chord := range odd {
			right := plainValid(n, chord)
			c, e := chords.Turn(n, chord)
			expect(t, "Turn", right, e, c == 0, n, chord)
			c, e = chords.Prime(n, chord)
			expect(t, "Prime", right, e, c == 0, n, chord)
			l, e := chords.Vector(n, chord)
			expect(t, "Vector", right, e, len(l) == 0, n, chord)
			l, e = chords.Class(n, chord)
			expect(t, "Class", right, e, len(l) == 0, n, chord)
			moves, turns, e := chords.Still(n, chord)
			expect(t, "Still", right, e, moves == 0 && turns == 0, n, chord)
			ok, e := chords.Deep(n, chord)
			expect(t, "Deep", right, e, !ok, n, chord)
		}
	}
}

func TestOddThirdArguments(t *testing.T) {
	for _, n := range odd {
		for _, chord := range odd {
			for _, x := range odd {
				c, e := chords.Move(n, chord, x)
				expect(t, "Move", plainValid(n, chord), e, c == 0, n, chord, x)
				c, e = chords.Times(n, chord, x)
				expect(t, "Times", plainValid(n, chord) && x >= 1 && x < n && plainCoprime(x, n), e, c == 0, n, chord, x)
				k, turned, e := chords.Way(n, chord, x)
				expect(t, "Way", plainValid(n, chord, x), e, k == 0 && !turned, n, chord, x)
				l, e := chords.Common(n, chord, x)
				expect(t, "Common", plainValid(n, chord, x), e, len(l) == 0, n, chord, x)
			}
		}
	}
}

func TestOddLists(t *testing.T) {
	for _, n := range odd {
		l, e := chords.Twins(n)
		expect(t, "Twins", n >= 2 && n <= 12, e, len(l) == 0, n)
		for _, size := range odd {
			l, e := chords.Primes(n, size)
			expect(t, "Primes", n >= 2 && n <= 12 && size >= 0 && size <= n, e, len(l) == 0, n, size)
		}
	}
}

// The circles and chords next to the limits.

func TestLimits(t *testing.T) {
	for n := 2; n <= 16; n++ {
		if _, e := chords.Prime(n, 1<<n-1); e != api.OK {
			t.Error(n, e)
		}
		if _, e := chords.Prime(n, 1<<n); e != api.ErrArg {
			t.Error(n, e)
		}
		if _, _, e := chords.Way(n, 1<<n, 0); e != api.ErrArg {
			t.Error(n, e)
		}
		if _, _, e := chords.Way(n, 0, 1<<n); e != api.ErrArg {
			t.Error(n, e)
		}
		if _, e := chords.Common(n, 0, -1); e != api.ErrArg {
			t.Error(n, e)
		}
	}
	for _, n := range []int{1, 17} {
		if _, e := chords.Prime(n, 0); e != api.ErrArg {
			t.Error(n, e)
		}
	}
	if _, e := chords.Twins(12); e != api.OK {
		t.Error(e)
	}
	for n := 13; n <= 16; n++ {
		if _, e := chords.Twins(n); e != api.ErrArg {
			t.Error(n, e)
		}
		if _, e := chords.Primes(n, 0); e != api.ErrArg {
			t.Error(n, e)
		}
	}
}

// A caller may change what it got, and gets the same again (Rules 2 and 4).

func TestResultsAreNew(t *testing.T) {
	for name, call := range map[string]func() ([]int, api.Errno){
		"Vector": func() ([]int, api.Errno) { return chords.Vector(12, 2741) },
		"Class":  func() ([]int, api.Errno) { return chords.Class(12, 2741) },
		"Primes": func() ([]int, api.Errno) { return chords.Primes(12, 4) },
		"Common": func() ([]int, api.Errno) { return chords.Common(12, 2741, 145) },
	} {
		first := must[[]int](t)(call())
		kept := slices.Clone(first)
		for i := range first {
			first[i] = -1
		}
		if again := must[[]int](t)(call()); !slices.Equal(again, kept) {
			t.Error(name, again, kept)
		}
	}
	first := must[[][2]int](t)(chords.Twins(12))
	kept := slices.Clone(first)
	clear(first)
	if again := must[[][2]int](t)(chords.Twins(12)); !slices.Equal(again, kept) {
		t.Error(again, kept)
	}
}
