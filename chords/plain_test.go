package chords_test

import (
	"math"
	"slices"

	"sackbut/api"
)

// The functions of this file do what the chapter says in the plainest way, so that the tests have something to hold the package against. They call nothing of it.

// odd are numbers at and beyond the borders of what arguments may be.
var odd = []int{math.MinInt, math.MinInt + 1, math.MinInt32, -65536, -13, -1, 0, 1, 2, 3, 7, 12, 13, 15, 16, 17, 31, 32, 63, 64, 65, 4095, 4096, 65535, 65536, math.MaxInt32, math.MaxInt - 1, math.MaxInt}

// samples are circles with some of their chords: all of the small ones, a few of the great ones.
func samples(yield func(n, chord int) bool) {
	for n := 2; n <= api.MaxTones; n++ {
		step := 1
		if n > 9 {
			step = 1<<n/97 | 1
		}
		for chord := 0; chord < 1<<n; chord += step {
			if !yield(n, chord) {
				return
			}
		}
		if !yield(n, 1<<n-1) {
			return
		}
	}
}

func plainModulo(x, n int) int {
	for x < 0 {
		x += n
	}
	for x >= n {
		x -= n
	}
	return x
}

func plainTones(n, chord int) []int {
	var list []int
	for x := 0; x < n; x++ {
		if chord&(1<<x) != 0 {
			list = append(list, x)
		}
	}
	return list
}

// plainMap replaces each tone x by a*x + b.
func plainMap(n, chord, a, b int) int {
	result := 0
	for _, x := range plainTones(n, chord) {
		result |= 1 << plainModulo(a*x+b, n)
	}
	return result
}

func plainDistance(n, x, y int) int {
	up, down := plainModulo(x-y, n), plainModulo(y-x, n)
	if up < down {
		return up
	}
	return down
}

func plainVector(n, chord int) []int {
	counts := make([]int, n/2)
	list := plainTones(n, chord)
	for i, x := range list {
		for _, y := range list[:i] {
			counts[plainDistance(n, x, y)-1]++
		}
	}
	return counts
}

func plainImages(n, chord int) []int {
	var list []int
	for k := 0; k < n; k++ {
		list = append(list, plainMap(n, chord, 1, k), plainMap(n, chord, -1, k))
	}
	slices.Sort(list)
	return slices.Compact(list)
}

func plainPrimes(n, size int) []int {
	var list []int
	for chord := 0; chord < 1<<n; chord++ {
		if len(plainTones(n, chord)) == size && plainImages(n, chord)[0] == chord {
			list = append(list, chord)
		}
	}
	return list
}

func plainTwins(n int) [][2]int {
	var pairs [][2]int
	for size := 0; size <= n; size++ {
		list := plainPrimes(n, size)
		for i, a := range list {
			for _, b := range list[i+1:] {
				if slices.Equal(plainVector(n, a), plainVector(n, b)) {
					pairs = append(pairs, [2]int{a, b})
				}
			}
		}
	}
	slices.SortFunc(pairs, func(x, y [2]int) int {
		if x[0] != y[0] {
			return x[0] - y[0]
		}
		return x[1] - y[1]
	})
	return pairs
}

func plainDeep(counts []int) bool {
	for i, x := range counts {
		for _, y := range counts[:i] {
			if x == y && x != 0 {
				return false
			}
		}
	}
	return true
}

func plainCoprime(a, b int) bool {
	for d := 2; d <= a && d <= b; d++ {
		if a%d == 0 && b%d == 0 {
			return false
		}
	}
	return true
}

// plainValid is written for chords that may be any number.
func plainValid(n int, list ...int) bool {
	if n < 2 || n > 16 {
		return false
	}
	size := 1
	for range n {
		size *= 2
	}
	for _, chord := range list {
		if chord < 0 || chord > size-1 {
			return false
		}
	}
	return true
}
