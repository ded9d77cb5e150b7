package wheels_test

import (
	"math/bits"
	"slices"
	"testing"

	"sackbut/api"
	"sackbut/canon"
	"sackbut/chords"
	"sackbut/wheels"
)

// sumOf returns the sum of two wheels, and productOf the product at each place.
func sumOf(n int, f, g []int) []int {
	var sum []int
	for x := range n {
		sum = append(sum, (f[x]+g[x])%primeOf[n])
	}
	return sum
}

func productOf(n int, f, g []int) []int {
	var product []int
	for x := range n {
		product = append(product, f[x]*g[x]%primeOf[n])
	}
	return product
}

// P8.9

func TestBackOfSpectrum(t *testing.T) {
	for n := range circles {
		for f := range manyWheels(n, 2000) {
			if back := must[[]int](t)(wheels.Back(n, must[[]int](t)(wheels.Spectrum(n, f)))); !slices.Equal(back, f) {
				t.Fatal(n, f, back)
			}
			if spectrum := must[[]int](t)(wheels.Spectrum(n, must[[]int](t)(wheels.Back(n, f)))); !slices.Equal(spectrum, f) {
				t.Fatal(n, f, spectrum)
			}
		}
	}
}

func TestSpectrumOfProductAndSum(t *testing.T) {
	for n := range circles {
		for f := range someWheels(n, 60) {
			for g := range someWheels(n, 60) {
				one, other := must[[]int](t)(wheels.Spectrum(n, f)), must[[]int](t)(wheels.Spectrum(n, g))
				product := must[[]int](t)(wheels.Spectrum(n, must[[]int](t)(wheels.Times(n, f, g))))
				if !slices.Equal(product, productOf(n, one, other)) {
					t.Fatal("product", n, f, g, product)
				}
				sum := must[[]int](t)(wheels.Spectrum(n, sumOf(n, f, g)))
				if !slices.Equal(sum, sumOf(n, one, other)) {
					t.Fatal("sum", n, f, g, sum)
				}
			}
		}
	}
}

// P8.10

func TestSpectrumOfMoved(t *testing.T) {
	for n := range circles {
		w, q := must[int](t)(wheels.Root(n)), must[int](t)(wheels.Prime(n))
		for f := range someWheels(n, 120) {
			spectrum := must[[]int](t)(wheels.Spectrum(n, f))
			power := must[[]int](t)(wheels.Power(n, f))
			for move := -n; move <= n; move++ {
				moved := must[[]int](t)(wheels.Move(n, f, move))
				for k, number := range must[[]int](t)(wheels.Spectrum(n, moved)) {
					if number != spectrum[k]*plainRaise(w, k*(move+n), q)%q {
						t.Fatal(n, f, move, k, number)
					}
				}
				if other := must[[]int](t)(wheels.Power(n, moved)); !slices.Equal(other, power) {
					t.Fatal("Power", n, f, move, other)
				}
			}
		}
	}
}

func TestSpectrumOfTurned(t *testing.T) {
	for n := range circles {
		for f := range manyWheels(n, 600) {
			spectrum := must[[]int](t)(wheels.Spectrum(n, f))
			turned := must[[]int](t)(wheels.Turn(n, f))
			for k, number := range must[[]int](t)(wheels.Spectrum(n, turned)) {
				if number != spectrum[(n-k)%n] {
					t.Fatal(n, f, k, number)
				}
			}
			if power, other := must[[]int](t)(wheels.Power(n, f)), must[[]int](t)(wheels.Power(n, turned)); !slices.Equal(other, power) {
				t.Fatal("Power", n, f, other)
			}
		}
	}
}

// P8.11

func TestSumOfPower(t *testing.T) {
	for n := range circles {
		for f := range manyWheels(n, 2000) {
			sum, squares := 0, 0
			for k, number := range must[[]int](t)(wheels.Power(n, f)) {
				sum += number
				squares += f[k] * f[k]
			}
			if (sum-n*squares)%primeOf[n] != 0 {
				t.Fatal(n, f, sum, squares)
			}
		}
	}
}

// P8.12

// heard is what tells chords of one circle apart: the number of tones and the vector.
type heard struct {
	tones  int
	vector [8]int
}

func heardOf(t *testing.T, n, chord int) heard {
	t.Helper()
	key := heard{tones: bits.OnesCount(uint(chord))}
	copy(key.vector[:], must[[]int](t)(chords.Vector(n, chord)))
	return key
}

func TestAlikeAndVectors(t *testing.T) {
	for n := 2; n <= 7; n++ {
		for a := range 1 << n {
			for b := range 1 << n {
				if ok := must[bool](t)(wheels.Alike(n, a, b)); ok != (heardOf(t, n, a) == heardOf(t, n, b)) {
					t.Fatal(n, a, b, ok)
				}
			}
		}
	}
}

// Each chord is held against the first one of its sort, and each first one against the one of another sort next to it.
func TestAlikeOfAllChords(t *testing.T) {
	for n := range circles {
		firsts := map[heard]int{}
		var list []int
		for chord := range 1 << n {
			key := heardOf(t, n, chord)
			first, met := firsts[key]
			if !met {
				firsts[key], first = chord, chord
				list = append(list, chord)
			}
			if !must[bool](t)(wheels.Alike(n, chord, first)) {
				t.Fatal("not alike", n, chord, first)
			}
		}
		for i, chord := range list {
			for _, other := range list[max(0, i-20):i] {
				if must[bool](t)(wheels.Alike(n, chord, other)) {
					t.Fatal("alike", n, chord, other)
				}
			}
		}
	}
}

func TestTwinsAreAlike(t *testing.T) {
	twins := 0
	for n := 8; n <= 12; n++ {
		for _, pair := range must[[][2]int](t)(chords.Twins(n)) {
			twins++
			for k := range n {
				moved := must[int](t)(chords.Move(n, must[int](t)(chords.Turn(n, pair[1])), k))
				if !must[bool](t)(wheels.Alike(n, pair[0], moved)) {
					t.Error(n, pair, k)
				}
			}
		}
	}
	if twins < 20 {
		t.Error("too few twins", twins)
	}
}

func TestFlatAndDifferences(t *testing.T) {
	for n := range circles {
		flat := 0
		for chord := range 1 << n {
			counts := plainDifferences(n, chord)
			want := slices.Min(counts[1:n]) == slices.Max(counts[1:n])
			if ok := must[bool](t)(wheels.Flat(n, chord)); ok != want {
				t.Fatal(n, chord, ok)
			}
			if want {
				flat++
			}
		}
		if flat < 2*n {
			t.Error("too few chords", n, flat)
		}
	}
}

// P8.13

func TestSpectrumOfOthers(t *testing.T) {
	for n := range circles {
		q := primeOf[n]
		for chord := range 1 << n {
			others := 1<<n - 1 - chord
			spectrum := must[[]int](t)(wheels.Spectrum(n, must[[]int](t)(wheels.Chord(n, chord))))
			turned := must[[]int](t)(wheels.Spectrum(n, must[[]int](t)(wheels.Chord(n, others))))
			if spectrum[0]+turned[0] != n {
				t.Fatal(n, chord, spectrum, turned)
			}
			for k := 1; k < n; k++ {
				if (spectrum[k]+turned[k])%q != 0 {
					t.Fatal(n, chord, spectrum, turned)
				}
			}
		}
	}
}

// P8.14

func TestDivideOfTimes(t *testing.T) {
	for n := range circles {
		undone := 0
		for g := range someWheels(n, 120) {
			for i := range 20 {
				h := someWheel(n, i)
				divided, e := wheels.Divide(n, must[[]int](t)(wheels.Times(n, g, h)), g)
				if e == api.OK && !slices.Equal(divided, h) || e != api.OK && e != api.ErrState {
					t.Fatal(n, g, h, divided, e)
				}
				if e == api.OK {
					undone++
				}
			}
		}
		if undone < 500 {
			t.Error("too few products are undone", n, undone)
		}
	}
}

// On the least circles all wheels are tried as the one whose product is the zero wheel.
func TestDivideAndZeroProducts(t *testing.T) {
	for _, n := range []int{2, 3} {
		zero := make([]int, n)
		all := allWheels(n)
		for _, g := range all {
			meets := false
			for _, h := range all {
				product := must[[]int](t)(wheels.Times(n, g, h))
				meets = meets || !slices.Equal(h, zero) && slices.Equal(product, zero)
				if divided, e := wheels.Divide(n, product, g); e == api.OK && !slices.Equal(divided, h) {
					t.Fatal(n, g, h, divided)
				}
			}
			_, e := wheels.Divide(n, g, g)
			if (e == api.ErrState) != meets || e != api.OK && e != api.ErrState {
				t.Fatal(n, g, e)
			}
		}
	}
}

// A wheel whose spectrum is not 0 only where that of g is 0 has the zero wheel as product.
func TestZeroProductsOfSilentWheels(t *testing.T) {
	for n := range circles {
		found := 0
		for g := range someWheels(n, 300) {
			_, e := wheels.Divide(n, make([]int, n), g)
			spectrum := must[[]int](t)(wheels.Spectrum(n, g))
			k := slices.Index(spectrum, 0)
			if (e == api.ErrState) != (k >= 0) {
				t.Fatal(n, g, e)
			}
			if k < 0 {
				continue
			}
			found++
			only := make([]int, n)
			only[k] = 1
			h := must[[]int](t)(wheels.Back(n, only))
			if product := must[[]int](t)(wheels.Times(n, g, h)); slices.Max(product) != 0 || slices.Max(h) == 0 {
				t.Fatal(n, g, h, product)
			}
		}
		if found < 50 {
			t.Error("too few wheels", n, found)
		}
	}
}

// P3: rhythms that fill a circle are silent where their partners are not, but at 0.
func TestRhythmsThatFill(t *testing.T) {
	found := 0
	for n := range circles {
		for size := 1; size <= n; size++ {
			for _, a := range must[[]int](t)(canon.List(n, size)) {
				b := must[int](t)(canon.Partner(n, a))
				found++
				if both := must[int](t)(wheels.Silent(n, a)) | must[int](t)(wheels.Silent(n, b)); both != 1<<n-2 {
					t.Fatal(n, a, b, both)
				}
				product := must[[]int](t)(wheels.Times(n, must[[]int](t)(wheels.Chord(n, a)), must[[]int](t)(wheels.Chord(n, b))))
				if !slices.Equal(product, slices.Repeat([]int{1}, n)) {
					t.Fatal(n, a, b, product)
				}
			}
		}
	}
	if found < 100 {
		t.Error("too few rhythms", found)
	}
}

// P2: the tones that a chord has in common with itself moved are its product with itself turned, and their spectrum is its power.
func TestPowerAndCommonTones(t *testing.T) {
	for n := range circles {
		for chord := range someChords(n, 500) {
			common := must[[]int](t)(chords.Common(n, chord, chord))
			f := must[[]int](t)(wheels.Chord(n, chord))
			product := must[[]int](t)(wheels.Times(n, f, must[[]int](t)(wheels.Turn(n, f))))
			if !slices.Equal(product, common) {
				t.Fatal(n, chord, product)
			}
			if power := must[[]int](t)(wheels.Power(n, f)); !slices.Equal(must[[]int](t)(wheels.Spectrum(n, common)), power) {
				t.Fatal(n, chord, power)
			}
		}
	}
}
