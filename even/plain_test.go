package even_test

import (
	"math"
	"strings"
)

// The functions of this file do what the chapter says in the plainest way, so that the tests have something to hold the package against. They call nothing of it.

// odd are numbers at and beyond the borders of what arguments may be.
var odd = []int{math.MinInt, math.MinInt + 1, math.MinInt32, -65536, -17, -2, -1, 0, 1, 2, 3, 4, 5, 7, 8, 12, 15, 16, 17, 31, 32, 63, 64, 65, 73, 4095, 4096, 4097, 1<<16 - 1, 1 << 16, 1<<16 + 1, math.MaxInt32, 1 << 62, math.MaxInt - 1, math.MaxInt}

// samples are circles with some of their scales: all of the small ones, and a part of the great ones, in which scales that division makes are.
func samples(yield func(n, scale int) bool) {
	for n := 2; n <= 16; n++ {
		step := 1
		if n > 11 {
			step = 1<<n/511 | 1
		}
		for scale := 1; scale < 1<<n; scale += step {
			if !yield(n, scale) {
				return
			}
		}
		for k := 1; k <= n && n > 11; k++ {
			for m := 0; m < n; m++ {
				if !yield(n, plainSpread(n, k, m)) {
					return
				}
			}
		}
	}
}

func plainTones(n, scale int) []int {
	var list []int
	for x := 0; x < n; x++ {
		if scale&(1<<x) != 0 {
			list = append(list, x)
		}
	}
	return list
}

func scaleOf(tones ...int) int {
	scale := 0
	for _, x := range tones {
		scale |= 1 << x
	}
	return scale
}

func plainModulo(x, n int) int {
	for x < 0 {
		x += n
	}
	for x >= n {
		x -= n
	}
	return x
}

// plainMap replaces each tone x by m*x + k.
func plainMap(n, scale, m, k int) int {
	result := 0
	for _, x := range plainTones(n, scale) {
		result |= 1 << plainModulo(m*x+k, n)
	}
	return result
}

func plainGCD(a, b int) int {
	for d := a; ; d-- {
		if a%d == 0 && b%d == 0 {
			return d
		}
	}
}

// plainSpread looks for the greatest number whose k-fold is not above i n + m.
func plainSpread(n, k, m int) int {
	scale := 0
	for i := 0; i < k; i++ {
		tone := 0
		for (tone+1)*k <= i*n+m {
			tone++
		}
		scale |= 1 << plainModulo(tone, n)
	}
	return scale
}

// plainStrokes joins strings, one pair of groups after the other.
func plainStrokes(n, k int) string {
	first, second := strings.Split(strings.Repeat("1", k), ""), strings.Split(strings.Repeat("0", n-k), "")
	for len(second) >= 2 {
		var joined []string
		for len(first) > 0 && len(second) > 0 {
			joined = append(joined, first[0]+second[0])
			first, second = first[1:], second[1:]
		}
		first, second = joined, append(first, second...)
	}
	return strings.Join(first, "") + strings.Join(second, "")
}

// plainSizes goes from each tone upward, tone by tone of the circle, until it has met j tones of the scale.
func plainSizes(n, scale, j int) []int {
	var sizes []int
	for _, x := range plainTones(n, scale) {
		size := 0
		for met := 0; met < j; {
			size++
			if scale&(1<<plainModulo(x+size, n)) != 0 {
				met++
			}
		}
		sizes = append(sizes, size)
	}
	return sizes
}

func plainDifferent(n, scale, j int) []int {
	var there [17]bool
	for _, size := range plainSizes(n, scale, j) {
		there[size] = true
	}
	var list []int
	for size, ok := range there {
		if ok {
			list = append(list, size)
		}
	}
	return list
}

func plainEven(n, scale int) bool {
	for j := 1; j < len(plainTones(n, scale)); j++ {
		sizes := plainDifferent(n, scale, j)
		if len(sizes) > 2 || len(sizes) == 2 && sizes[1] != sizes[0]+1 {
			return false
		}
	}
	return true
}

func plainTwo(n, scale int) bool {
	k := len(plainTones(n, scale))
	for j := 1; j < k; j++ {
		if len(plainDifferent(n, scale, j)) != 2 {
			return false
		}
	}
	return k != 1
}

func plainIsMadeBy(n, scale, g int) bool {
	for c := 0; c < n; c++ {
		made, different := 0, true
		for i := range plainTones(n, scale) {
			tone := 1 << plainModulo(c+i*g, n)
			different = different && made&tone == 0
			made |= tone
		}
		if different && made == scale {
			return true
		}
	}
	return false
}

// plainMaker returns 0 if no step makes the scale.
func plainMaker(n, scale int) int {
	for g := 1; g < n; g++ {
		if plainIsMadeBy(n, scale, g) {
			return g
		}
	}
	return 0
}

// plainSum looks at each pair from both sides, and so has twice the sum at the end.
func plainSum(n, scale int) int {
	twice := 0
	for _, x := range plainTones(n, scale) {
		for _, y := range plainTones(n, scale) {
			if x != y {
				d := plainModulo(x-y, n)
				twice += d * (n - d)
			}
		}
	}
	return twice / 2
}

// plainScales returns all scales of the circle, by their numbers of tones, each list rising.
func plainScales(n int) [][]int {
	bySize := make([][]int, n+1)
	for scale := 1; scale < 1<<n; scale++ {
		k := len(plainTones(n, scale))
		bySize[k] = append(bySize[k], scale)
	}
	return bySize
}

// plainValid is written for scales that may be any number.
func plainValid(n, scale int) bool {
	if n < 2 || n > 16 {
		return false
	}
	count := 1
	for range n {
		count *= 2
	}
	return scale > 0 && scale < count
}
