package canon_test

import (
	"math"
	"slices"

	"sackbut/api"
)

// The functions of this file do what the chapter says in the plainest way, so that the tests have something to hold the package against. They call nothing of it.

// odd are numbers at and beyond the borders of what arguments may be.
var odd = []int{math.MinInt, math.MinInt + 1, math.MinInt32, -4097, -12, -1, 0, 1, 2, 3, 4, 5, 7, 12, 15, 16, 17, 23, 24, 25, 31, 32, 63, 64, 65, 4095, 4096, 4097, 1<<24 - 1, 1 << 24, 1<<24 + 1, math.MaxInt32, math.MaxInt - 1, math.MaxInt}

// samples are circles with some of their rhythms: all of the small ones, a few of the great ones, and those of tilings.
func samples(yield func(n, a int) bool) {
	for n := 2; n <= api.MaxBeats; n++ {
		step := 2
		if n > 10 {
			step = (1<<n/211 | 1) + 1
		}
		for a := 1; a < 1<<n; a += step {
			if !yield(n, a) {
				return
			}
		}
		if !yield(n, 1<<n-1) {
			return
		}
	}
	for t := range tilings {
		if t.n > 10 && !yield(t.n, t.a) {
			return
		}
	}
}

type tiling struct{ n, a, b int }

// tilings are circles with two rhythms that tile: write the beats as numbers with several digits, and let each rhythm have some of the digits.
func tilings(yield func(tiling) bool) {
	for n := 2; n <= api.MaxBeats; n++ {
		list := digits(tiling{n, 1, 1}, 1)
		slices.SortFunc(list, func(x, y tiling) int { return slices.Compare([]int{x.a, x.b}, []int{y.a, y.b}) })
		for _, t := range slices.Compact(list) {
			if !yield(t) {
				return
			}
		}
	}
}

func digits(t tiling, step int) []tiling {
	if step == t.n {
		return []tiling{t}
	}
	var list []tiling
	for p := 2; p <= t.n/step; p++ {
		if !plainPrime(p) || t.n/step%p != 0 {
			continue
		}
		list = append(list, digits(tiling{t.n, addDigit(t.a, step, p), t.b}, step*p)...)
		list = append(list, digits(tiling{t.n, t.a, addDigit(t.b, step, p)}, step*p)...)
	}
	return list
}

func addDigit(rhythm, step, p int) int {
	sum := 0
	for digit := 0; digit < p; digit++ {
		sum |= rhythm << (digit * step)
	}
	return sum
}

func plainModulo(x, n int) int {
	for x < 0 {
		x += n
	}
	for x >= n {
		x -= n
	}
	return x
}

func plainBeats(n, rhythm int) []int {
	var list []int
	for x := 0; x < n; x++ {
		if rhythm&(1<<x) != 0 {
			list = append(list, x)
		}
	}
	return list
}

// plainMap replaces each beat x by m*x + k.
func plainMap(n, rhythm, m, k int) int {
	result := 0
	for _, x := range plainBeats(n, rhythm) {
		result |= 1 << plainModulo(m*x+k, n)
	}
	return result
}

func plainTiles(n, a, b int) bool {
	counts := make([]int, n)
	for _, x := range plainBeats(n, a) {
		for _, y := range plainBeats(n, b) {
			counts[plainModulo(x+y, n)]++
		}
	}
	for _, count := range counts {
		if count != 1 {
			return false
		}
	}
	return true
}

// plainTilings returns all pairs of rhythms that tile, rising. It is quick enough for n up to 16.
func plainTilings(n int) [][2]int {
	bySize := make([][]int, n+1)
	for a := 1; a < 1<<n; a += 2 {
		size := len(plainBeats(n, a))
		bySize[size] = append(bySize[size], a)
	}
	var pairs [][2]int
	for a := 1; a < 1<<n; a += 2 {
		size := len(plainBeats(n, a))
		if n%size != 0 {
			continue
		}
		for _, b := range bySize[n/size] {
			if disjoint(n, a, b) && plainTiles(n, a, b) {
				pairs = append(pairs, [2]int{a, b})
			}
		}
	}
	return pairs
}

// disjoint makes plainTilings quicker: it looks at the lowest voices alone.
func disjoint(n, a, b int) bool {
	for y := 1; y < n; y++ {
		if b&(1<<y) != 0 {
			return a&(a<<y|a>>(n-y)) == 0
		}
	}
	return true
}

// plainPartners returns all partners, from the list of plainTilings.
func plainPartners(pairs [][2]int, a int) []int {
	from, _ := slices.BinarySearchFunc(pairs, a, func(x [2]int, a int) int { return x[0] - a })
	var list []int
	for _, pair := range pairs[from:] {
		if pair[0] != a {
			break
		}
		list = append(list, pair[1])
	}
	return list
}

func plainIsPeriod(n, a, d int) bool {
	return d >= 1 && d <= n && n%d == 0 && plainMap(n, a, 1, d) == a
}

func plainPeriod(n, a int) int {
	for d := 1; ; d++ {
		if plainIsPeriod(n, a, d) {
			return d
		}
	}
}

func plainPrime(p int) bool {
	for d := 2; d < p; d++ {
		if p%d == 0 {
			return false
		}
	}
	return p >= 2
}

// primeOf returns p for a power of p, and 0 for other numbers.
func primeOf(s int) int {
	for p := 2; p <= s; p++ {
		if !plainPrime(p) {
			continue
		}
		for power := p; power <= s; power *= p {
			if power == s {
				return p
			}
		}
	}
	return 0
}

// divide divides by a polynomial whose first coefficient is 1. Element k of a polynomial is the coefficient of x^k.
func divide(dividend, divisor []int) (quotient, rest []int) {
	rest = slices.Clone(dividend)
	degree := len(divisor) - 1
	quotient = make([]int, max(0, len(rest)-degree))
	for k := len(rest) - 1; k >= degree; k-- {
		factor := rest[k]
		quotient[k-degree] = factor
		for i, coefficient := range divisor {
			rest[k-degree+i] -= factor * coefficient
		}
	}
	return quotient, rest[:min(degree, len(rest))]
}

var cyclotomics = map[int][]int{}

// cyclotomic returns the polynomial whose zeros are just the primitive s-th roots of 1: x^s - 1 without those of all lesser divisors of s.
func cyclotomic(s int) []int {
	if known, ok := cyclotomics[s]; ok {
		return known
	}
	polynomial := make([]int, s+1)
	polynomial[0], polynomial[s] = -1, 1
	for d := 1; d < s; d++ {
		if s%d == 0 {
			polynomial, _ = divide(polynomial, cyclotomic(d))
		}
	}
	cyclotomics[s] = polynomial
	return polynomial
}

func plainRoots(n, a int) []int {
	polynomial := make([]int, n)
	for _, x := range plainBeats(n, a) {
		polynomial[x] = 1
	}
	var list []int
	for s := 2; s <= n; s++ {
		if n%s != 0 {
			continue
		}
		if _, rest := divide(polynomial, cyclotomic(s)); !slices.ContainsFunc(rest, func(c int) bool { return c != 0 }) {
			list = append(list, s)
		}
	}
	return list
}

func plainFirst(n, a int) bool {
	product := 1
	for _, s := range plainRoots(n, a) {
		if p := primeOf(s); p != 0 {
			product *= p
		}
	}
	return product == len(plainBeats(n, a))
}

// plainSecond tries all sets of roots that are powers of different primes.
func plainSecond(n, a int) bool {
	roots := plainRoots(n, a)
	for set := 1; set < 1<<len(roots); set++ {
		product, used, different := 1, map[int]bool{0: true}, true
		for i, s := range roots {
			if set&(1<<i) == 0 {
				continue
			}
			different = different && !used[primeOf(s)]
			used[primeOf(s)] = true
			product *= s
		}
		if different && !slices.Contains(roots, product) {
			return false
		}
	}
	return true
}

// plainBuild multiplies polynomials modulo x^n - 1 and returns the coefficients.
func plainBuild(n, a int) []int {
	roots := plainRoots(n, a)
	product := make([]int, n)
	product[0] = 1
	for s := 2; s <= n; s++ {
		p := primeOf(s)
		if p == 0 || n%s != 0 || slices.Contains(roots, s) {
			continue
		}
		rest := 1
		for d := 1; d <= n; d++ {
			if n%d == 0 && d%p != 0 {
				rest = d
			}
		}
		next := make([]int, n)
		for k, coefficient := range product {
			for j := 0; j < p; j++ {
				next[plainModulo(k+j*(s/p)*rest, n)] += coefficient
			}
		}
		product = next
	}
	return product
}

func plainCoprime(a, b int) bool {
	for d := 2; d <= a && d <= b; d++ {
		if a%d == 0 && b%d == 0 {
			return false
		}
	}
	return true
}

// plainValid is written for rhythms that may be any number.
func plainValid(n int, list ...int) bool {
	if n < 2 || n > 24 {
		return false
	}
	size := 1
	for range n {
		size *= 2
	}
	for _, rhythm := range list {
		if rhythm < 1 || rhythm > size-1 || rhythm%2 == 0 {
			return false
		}
	}
	return true
}
