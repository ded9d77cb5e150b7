package wheels_test

import (
	"math"
	"slices"
	"testing"

	"sackbut/api"
	"sackbut/wheels"
)

// expect says which error a call had to give, and that an error comes with zero values only.
func expect(t *testing.T, name string, want, e api.Errno, zero bool, arguments ...any) {
	t.Helper()
	if e != want {
		t.Fatal(name, arguments, "error", e, "not", want)
	}
	if e != api.OK && !zero {
		t.Fatal(name, arguments, "a result besides the error", e)
	}
}

// errorOf returns ErrArg unless the arguments are valid.
func errorOf(valid bool) api.Errno {
	if valid {
		return api.OK
	}
	return api.ErrArg
}

func TestOddCircles(t *testing.T) {
	for _, n := range odd {
		q, e := wheels.Prime(n)
		expect(t, "Prime", errorOf(plainIsCircle(n)), e, q == 0, n)
		w, e := wheels.Root(n)
		expect(t, "Root", errorOf(plainIsCircle(n)), e, w == 0, n)
	}
}

func TestOddChords(t *testing.T) {
	for _, n := range odd {
		for _, chord := range odd {
			want := errorOf(plainIsChord(n, chord))
			l, e := wheels.Chord(n, chord)
			expect(t, "Chord", want, e, len(l) == 0, n, chord)
			set, e := wheels.Silent(n, chord)
			expect(t, "Silent", want, e, set == 0, n, chord)
			ok, e := wheels.Flat(n, chord)
			expect(t, "Flat", want, e, !ok, n, chord)
			for _, other := range odd {
				ok, e := wheels.Alike(n, chord, other)
				expect(t, "Alike", errorOf(plainIsChord(n, chord) && plainIsChord(n, other)), e, !ok, n, chord, other)
			}
		}
	}
}

func TestChordsNextToTheLimits(t *testing.T) {
	for n := range circles {
		for _, chord := range []int{-1, 0, 1<<n - 1, 1 << n, 1<<n + 1} {
			want := errorOf(chord >= 0 && chord < 1<<n)
			l, e := wheels.Chord(n, chord)
			expect(t, "Chord", want, e, len(l) == 0, n, chord)
			_, e = wheels.Silent(n, chord)
			expect(t, "Silent", want, e, true, n, chord)
			ok, e := wheels.Flat(n, chord)
			expect(t, "Flat", want, e, !ok, n, chord)
			ok, e = wheels.Alike(n, chord, 0)
			expect(t, "Alike", want, e, want == api.OK || !ok, n, chord, 0)
			ok, e = wheels.Alike(n, 0, chord)
			expect(t, "Alike", want, e, want == api.OK || !ok, n, 0, chord)
			indices, e := wheels.Solve(n, chord, []int{chord})
			expect(t, "Solve", want, e, len(indices) == 0, n, chord)
			indices, e = wheels.Solve(n, 0, []int{0, chord})
			expect(t, "Solve", want, e, len(indices) == 0, n, chord)
		}
	}
}

// checkWheels calls all functions of two slices, each of which may be a wheel or none.
func checkWheels(t *testing.T, n int, f, g []int) {
	t.Helper()
	want := errorOf(plainIsWheel(n, f))
	for name, call := range map[string]func(int, []int) ([]int, api.Errno){
		"Spectrum": wheels.Spectrum,
		"Back":     wheels.Back,
		"Power":    wheels.Power,
		"Turn":     wheels.Turn,
		"Move":     func(n int, f []int) ([]int, api.Errno) { return wheels.Move(n, f, -1) },
	} {
		l, e := call(n, f)
		expect(t, name, want, e, len(l) == 0, n, f)
	}
	both := plainIsWheel(n, f) && plainIsWheel(n, g)
	l, e := wheels.Times(n, f, g)
	expect(t, "Times", errorOf(both), e, len(l) == 0, n, f, g)
	want = errorOf(both)
	if both && slices.Contains(plainSpectrum(n, g), 0) {
		want = api.ErrState
	}
	l, e = wheels.Divide(n, f, g)
	expect(t, "Divide", want, e, len(l) == 0, n, f, g)
}

func TestOddNumbers(t *testing.T) {
	for n := range circles {
		unit := make([]int, n)
		unit[0] = 1
		for _, number := range slices.Concat(odd, []int{primeOf[n] - 1, primeOf[n], primeOf[n] + 1}) {
			for x := range n {
				f := make([]int, n)
				f[x] = number
				checkWheels(t, n, f, unit)
				checkWheels(t, n, unit, f)
				checkWheels(t, n, f, f)
				// ErrArg comes before ErrState.
				checkWheels(t, n, f, make([]int, n))
			}
		}
	}
}

func TestOddLengths(t *testing.T) {
	long := make([]int, 1<<20)
	for _, n := range odd {
		for length := range 19 {
			checkWheels(t, n, make([]int, length), make([]int, max(0, min(n, 20))))
			checkWheels(t, n, make([]int, max(0, min(n, 20))), make([]int, length))
		}
		checkWheels(t, n, nil, nil)
		checkWheels(t, n, []int{}, nil)
		checkWheels(t, n, long, long)
		checkWheels(t, n, make([]int, max(0, min(n, 20))), long)
	}
}

func TestOddMoves(t *testing.T) {
	for _, n := range odd {
		for _, k := range odd {
			for _, length := range []int{0, 1, 2, 12, 16, 17} {
				f := make([]int, length)
				l, e := wheels.Move(n, f, k)
				expect(t, "Move", errorOf(plainIsWheel(n, f)), e, len(l) == 0, n, f, k)
			}
		}
	}
}

func TestOddTargets(t *testing.T) {
	for _, n := range odd {
		for _, target := range odd {
			for _, chord := range odd {
				want := errorOf(plainIsChord(n, target) && plainIsChord(n, chord))
				if want == api.OK && target != chord && target != 0 {
					want = api.ErrNone
				}
				l, e := wheels.Solve(n, target, []int{chord})
				expect(t, "Solve", want, e, len(l) == 0, n, target, chord)
			}
			want := errorOf(plainIsChord(n, target))
			if want == api.OK && target != 0 {
				want = api.ErrNone
			}
			l, e := wheels.Solve(n, target, nil)
			expect(t, "Solve", want, e, len(l) == 0, n, target)
		}
	}
}

// A chord that is none is an error at each place of a list, also where the chords before it solve it.
func TestOddLists(t *testing.T) {
	for n := range circles {
		for length := 1; length <= 10; length++ {
			for place := range length {
				for _, chord := range []int{math.MinInt, -1, 1 << n, math.MaxInt} {
					list := make([]int, length)
					list[place] = chord
					l, e := wheels.Solve(n, 0, list)
					expect(t, "Solve", api.ErrArg, e, len(l) == 0, n, list)
					if length > 1 {
						list[(place+1)%length] = 1
					}
					l, e = wheels.Solve(n, 1, list)
					expect(t, "Solve", api.ErrArg, e, len(l) == 0, n, list)
				}
			}
		}
	}
}

func TestLongLists(t *testing.T) {
	for n := range circles {
		for _, length := range []int{0, 1, 9, 10, 11, 12, 64, 1 << 20} {
			for _, chord := range []int{0, 1, 1<<n - 1} {
				list := slices.Repeat([]int{chord}, length)
				l, e := wheels.Solve(n, 0, list)
				expect(t, "Solve", errorOf(length <= 10), e, len(l) == 0, n, length, chord)
				want := errorOf(length <= 10)
				if want == api.OK && (length == 0 || chord != 1) {
					want = api.ErrNone
				}
				l, e = wheels.Solve(n, 1, list)
				expect(t, "Solve", want, e, len(l) == 0, n, length, chord)
			}
		}
	}
	for _, n := range []int{math.MinInt, -1, 0, 1, 17, math.MaxInt} {
		l, e := wheels.Solve(n, 0, nil)
		expect(t, "Solve", api.ErrArg, e, len(l) == 0, n)
	}
}

// spare is what stands in the memory behind the slices of the next tests.
const spare = 77

// withSpare returns a slice with room behind it, and all of its memory.
func withSpare(numbers []int) (list, all []int) {
	all = append(slices.Clone(numbers), slices.Repeat([]int{spare}, 20)...)
	return all[:len(numbers)], all
}

// spoil overwrites a result, and what memory is behind it.
func spoil(list []int) {
	for i := range list[:cap(list)] {
		list[:cap(list)][i] = -1
	}
}

// No argument is changed, and no result shares memory with one (Rule 4).
func TestArgumentsStay(t *testing.T) {
	for n := range circles {
		unit := make([]int, n)
		unit[0] = 1
		for wheel := range someWheels(n, 12) {
			f, allF := withSpare(wheel)
			g, allG := withSpare(unit)
			keptF, keptG := slices.Clone(allF), slices.Clone(allG)
			for name, call := range map[string]func() ([]int, api.Errno){
				"Spectrum":      func() ([]int, api.Errno) { return wheels.Spectrum(n, f) },
				"Back":          func() ([]int, api.Errno) { return wheels.Back(n, f) },
				"Times":         func() ([]int, api.Errno) { return wheels.Times(n, f, g) },
				"Times by f":    func() ([]int, api.Errno) { return wheels.Times(n, g, f) },
				"Times of both": func() ([]int, api.Errno) { return wheels.Times(n, f, f) },
				"Divide":        func() ([]int, api.Errno) { return wheels.Divide(n, f, g) },
				"Power":         func() ([]int, api.Errno) { return wheels.Power(n, f) },
				"Move":          func() ([]int, api.Errno) { return wheels.Move(n, f, 0) },
				"Turn":          func() ([]int, api.Errno) { return wheels.Turn(n, f) },
			} {
				result := must[[]int](t)(call())
				spoil(result)
				if !slices.Equal(allF, keptF) || !slices.Equal(allG, keptG) {
					t.Fatal(name, n, wheel, allF, allG)
				}
			}
		}
		list, all := withSpare([]int{1, 0, 2, 3})
		kept := slices.Clone(all)
		for target := range 4 {
			indices, _ := wheels.Solve(n, target, list)
			spoil(indices)
			if !slices.Equal(all, kept) {
				t.Fatal("Solve", n, target, all)
			}
		}
	}
}

// A caller may change what it got, and gets the same again (Rules 2 and 4).
func TestResultsAreNew(t *testing.T) {
	f, g := []int{1, 2, 0, 12}, []int{0, 3, 0, 0}
	for name, call := range map[string]func() ([]int, api.Errno){
		"Spectrum": func() ([]int, api.Errno) { return wheels.Spectrum(4, f) },
		"Back":     func() ([]int, api.Errno) { return wheels.Back(4, f) },
		"Times":    func() ([]int, api.Errno) { return wheels.Times(4, f, g) },
		"Divide":   func() ([]int, api.Errno) { return wheels.Divide(4, f, g) },
		"Power":    func() ([]int, api.Errno) { return wheels.Power(4, f) },
		"Chord":    func() ([]int, api.Errno) { return wheels.Chord(12, 145) },
		"Move":     func() ([]int, api.Errno) { return wheels.Move(4, f, 3) },
		"Turn":     func() ([]int, api.Errno) { return wheels.Turn(4, f) },
		"Solve":    func() ([]int, api.Errno) { return wheels.Solve(4, 15, []int{1, 2, 0, 4, 8}) },
	} {
		first := must[[]int](t)(call())
		kept := slices.Clone(first)
		spoil(first)
		for range 20 {
			if again := must[[]int](t)(call()); !slices.Equal(again, kept) {
				t.Error(name, again, kept)
			}
		}
	}
}
