package chords_test

import (
	"slices"
	"testing"

	"sackbut/chords"
)

func sum(list []int) int {
	total := 0
	for _, x := range list {
		total += x
	}
	return total
}

// P1.9

func TestImagesKeep(t *testing.T) {
	for n, chord := range samples {
		vector := must[[]int](t)(chords.Vector(n, chord))
		prime := must[int](t)(chords.Prime(n, chord))
		moves, turns, _ := chords.Still(n, chord)
		turned := must[int](t)(chords.Turn(n, chord))
		for k := range n {
			for _, start := range []int{chord, turned} {
				image := must[int](t)(chords.Move(n, start, k))
				if v := must[[]int](t)(chords.Vector(n, image)); !slices.Equal(v, vector) {
					t.Fatal(n, chord, image, v, vector)
				}
				if p := must[int](t)(chords.Prime(n, image)); p != prime {
					t.Fatal(n, chord, image, p, prime)
				}
				if m, u, _ := chords.Still(n, image); m != moves || u != turns {
					t.Fatal(n, chord, image, m, u, moves, turns)
				}
			}
		}
		if class := must[[]int](t)(chords.Class(n, chord)); len(class)*(moves+turns) != 2*n {
			t.Fatal(n, chord, class, moves, turns)
		}
	}
}

func TestTimesPermutesVector(t *testing.T) {
	for n, chord := range samples {
		before := must[[]int](t)(chords.Vector(n, chord))
		for m := 1; m < n; m++ {
			if !plainCoprime(m, n) {
				continue
			}
			after := must[[]int](t)(chords.Vector(n, must[int](t)(chords.Times(n, chord, m))))
			for d := 1; d <= n/2; d++ {
				if after[plainDistance(n, 0, m*d)-1] != before[d-1] {
					t.Fatal(n, chord, m, before, after)
				}
			}
		}
	}
}

// P1.10

func TestSums(t *testing.T) {
	for n, chord := range samples {
		size := len(plainTones(n, chord))
		vector := must[[]int](t)(chords.Vector(n, chord))
		if sum(vector) != size*(size-1)/2 {
			t.Fatal(n, chord, vector)
		}
		common := must[[]int](t)(chords.Common(n, chord, chord))
		for d := 1; d <= n/2; d++ {
			want := vector[d-1]
			if 2*d == n {
				want *= 2
			}
			if common[d] != want || common[n-d] != want {
				t.Fatal(n, chord, vector, common)
			}
		}
		other := (chord*5 + 3) % (1 << n)
		if l := must[[]int](t)(chords.Common(n, chord, other)); sum(l) != size*len(plainTones(n, other)) {
			t.Fatal(n, chord, other, l)
		}
	}
}

// P1.11

func TestOthers(t *testing.T) {
	for n, chord := range samples {
		size := len(plainTones(n, chord))
		vector := must[[]int](t)(chords.Vector(n, chord))
		others := must[[]int](t)(chords.Vector(n, 1<<n-1-chord))
		for d := 1; d <= n/2; d++ {
			more := n - 2*size
			if 2*d == n {
				more = n/2 - size
			}
			if others[d-1] != vector[d-1]+more {
				t.Fatal(n, chord, vector, others)
			}
		}
		if 2*size == n && !slices.Equal(vector, others) {
			t.Fatal(n, chord, vector, others)
		}
	}
}

// P1.12

func TestCounting(t *testing.T) {
	for n := 2; n <= 12; n++ {
		images := 0
		for size := range n + 1 {
			list := must[[]int](t)(chords.Primes(n, size))
			if others := must[[]int](t)(chords.Primes(n, n-size)); len(others) != len(list) {
				t.Error(n, size, len(list), len(others))
			}
			for _, form := range list {
				images += len(must[[]int](t)(chords.Class(n, form)))
			}
		}
		if images != 1<<n {
			t.Error(n, images)
		}
	}
}

// P1.13

func TestTwinsOfOthers(t *testing.T) {
	for n := 2; n <= 12; n++ {
		list := must[[][2]int](t)(chords.Twins(n))
		if n <= 7 && len(list) != 0 {
			t.Error(n, list)
		}
		for _, pair := range list {
			a := must[int](t)(chords.Prime(n, 1<<n-1-pair[0]))
			b := must[int](t)(chords.Prime(n, 1<<n-1-pair[1]))
			if !slices.Contains(list, [2]int{min(a, b), max(a, b)}) {
				t.Error(n, pair, a, b)
			}
		}
	}
}
