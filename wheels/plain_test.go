package wheels_test

import (
	"iter"
	"math"
	"math/bits"
	"slices"
)

// The functions of this file do what the chapter says in the plainest way, so that the tests have something to hold the package against. They call nothing of it.

// primeOf and rootOf are the primes and the roots of all circles. A test holds them against the definitions.
var (
	primeOf = map[int]int{2: 5, 3: 7, 4: 13, 5: 11, 6: 13, 7: 29, 8: 17, 9: 19, 10: 31, 11: 23, 12: 37, 13: 53, 14: 29, 15: 31, 16: 97}
	rootOf  = map[int]int{2: 4, 3: 2, 4: 5, 5: 3, 6: 4, 7: 7, 8: 2, 9: 4, 10: 15, 11: 2, 12: 8, 13: 10, 14: 4, 15: 7, 16: 8}
)

// odd are numbers at and beyond the borders of what arguments may be.
var odd = []int{math.MinInt, math.MinInt + 1, math.MinInt32, -97, -17, -16, -5, -3, -2, -1, 0, 1, 2, 3, 4, 5, 6, 7, 8, 9, 10, 11, 12, 13, 15, 16, 17, 18, 28, 29, 30, 31, 32, 33, 63, 64, 96, 97, 98, 1<<16 - 1, 1 << 16, 1<<16 + 1, math.MaxInt32, 1 << 32, 1<<32 + 1, 1 << 62, math.MaxInt - 1, math.MaxInt}

// scattered returns a number below total that the next one tells nothing of: the tests take some of many by it.
func scattered(i, total int) int {
	mixed := (uint64(i) + 1) * 0x9E3779B97F4A7C15
	mixed ^= mixed >> 29
	mixed *= 0xBF58476D1CE4E5B9
	mixed ^= mixed >> 32
	return int(mixed % uint64(total))
}

// circles yields all numbers of tones.
func circles(yield func(int) bool) {
	for n := 2; n <= 16; n++ {
		if !yield(n) {
			return
		}
	}
}

// allWheels returns all wheels of a circle, in order; there are few only on those of 2, 3 and 4 tones.
func allWheels(n int) [][]int {
	list := [][]int{nil}
	for range n {
		var longer [][]int
		for _, begin := range list {
			for number := range primeOf[n] {
				longer = append(longer, slices.Concat(begin, []int{number}))
			}
		}
		list = longer
	}
	return list
}

// someWheel returns a wheel with a number: one of any numbers, one of a chord, one with few numbers, one that comes again after a part of the circle, or one whose spectrum has 0s.
func someWheel(n, number int) []int {
	q := primeOf[n]
	f := make([]int, n)
	for x := range f {
		at := scattered(number, 1<<20) + x
		switch number % 6 {
		case 0, 1:
			f[x] = scattered(at, q)
		case 2:
			f[x] = scattered(at, 2)
		case 3:
			f[x] = scattered(at, 3) * scattered(at+1, 2) * (q - 1) / 2
		case 4:
			period := 1 + scattered(number, n)
			f[x] = scattered(scattered(number, 1<<20)+x%period, q)
		case 5:
			f[x] = scattered(at, q)
		}
	}
	if number%6 == 5 {
		// The product with a wheel 1 -1 takes away the spectrum at 0, and at more places where the step divides n.
		step := 1 + scattered(number, n-1)
		other := make([]int, n)
		other[0] = 1
		other[step] = q - 1
		return plainTimes(n, f, other)
	}
	return f
}

// someWheels yields a few wheels that are special, then so many others.
func someWheels(n, most int) iter.Seq[[]int] {
	q := primeOf[n]
	return func(yield func([]int) bool) {
		for _, number := range []int{0, 1, q - 1} {
			if !yield(slices.Repeat([]int{number}, n)) {
				return
			}
			for x := range n {
				f := make([]int, n)
				f[x] = number
				if !yield(f) {
					return
				}
			}
		}
		for number := range most {
			if !yield(someWheel(n, number)) {
				return
			}
		}
	}
}

// manyWheels yields all wheels of 2 and 3 tones, and some of more.
func manyWheels(n, most int) iter.Seq[[]int] {
	if n <= 3 {
		return slices.Values(allWheels(n))
	}
	return someWheels(n, most)
}

// someChords yields all chords of up to 10 tones, and some others.
func someChords(n, most int) iter.Seq[int] {
	return func(yield func(int) bool) {
		if n <= 10 {
			for chord := range 1 << n {
				if !yield(chord) {
					return
				}
			}
			return
		}
		for i := range most {
			if !yield(scattered(i, 1<<n)) {
				return
			}
		}
	}
}

func plainIsCircle(n int) bool {
	return n >= 2 && n <= 16
}

func plainIsChord(n, chord int) bool {
	return plainIsCircle(n) && chord >= 0 && bits.Len(uint(chord)) <= n
}

func plainIsWheel(n int, f []int) bool {
	return plainIsCircle(n) && len(f) == n && slices.Min(f) >= 0 && slices.Max(f) <= primeOf[n]-1
}

func plainHas(chord, tone int) bool {
	return chord>>tone%2 == 1
}

func plainTones(n, chord int) []int {
	var list []int
	for tone := range n {
		if plainHas(chord, tone) {
			list = append(list, tone)
		}
	}
	return list
}

func plainIsPrime(x int) bool {
	for d := 2; d < x; d++ {
		if x%d == 0 {
			return false
		}
	}
	return x > 1
}

func plainRaise(x, exponent, q int) int {
	power := 1
	for range exponent {
		power = power * x % q
	}
	return power
}

// plainOrder returns 0 if no power up to the q-th is 1.
func plainOrder(x, q int) int {
	for k := 1; k <= q; k++ {
		if plainRaise(x, k, q) == 1 {
			return k
		}
	}
	return 0
}

func plainSpectrum(n int, f []int) []int {
	q := primeOf[n]
	var spectrum []int
	for k := range n {
		sum := 0
		for x := range n {
			sum += f[x] * plainRaise(rootOf[n], k*x, q)
		}
		spectrum = append(spectrum, sum%q)
	}
	return spectrum
}

// plainTimes goes through all y and asks for which index x - y is.
func plainTimes(n int, f, g []int) []int {
	var product []int
	for x := range n {
		sum := 0
		for y := range n {
			sum += f[y] * g[(x-y+n)%n]
		}
		product = append(product, sum%primeOf[n])
	}
	return product
}

// plainSolution solves the equations of the rows and the right sides modulo q by elimination, without any spectrum. It returns nil if there is not just one solution.
func plainSolution(rows [][]int, right []int, q int) []int {
	size := len(rows)
	var table [][]int
	for i, row := range rows {
		table = append(table, slices.Concat(row, []int{right[i]}))
	}
	for column := range size {
		first := column
		for first < size && table[first][column] == 0 {
			first++
		}
		if first == size {
			return nil
		}
		table[column], table[first] = table[first], table[column]
		share := plainInverse(table[column][column], q)
		for i := range table[column] {
			table[column][i] = table[column][i] * share % q
		}
		for other := range size {
			factor := table[other][column]
			if other == column || factor == 0 {
				continue
			}
			for i := range table[other] {
				table[other][i] = (table[other][i] + (q-factor)*table[column][i]) % q
			}
		}
	}
	var solution []int
	for _, row := range table {
		solution = append(solution, row[size])
	}
	return solution
}

func plainInverse(x, q int) int {
	for other := range q {
		if x*other%q == 1 {
			return other
		}
	}
	return 0
}

func plainBack(n int, spectrum []int) []int {
	q := primeOf[n]
	var rows [][]int
	for k := range n {
		var row []int
		for x := range n {
			row = append(row, plainRaise(rootOf[n], k*x, q))
		}
		rows = append(rows, row)
	}
	return plainSolution(rows, spectrum, q)
}

// plainDivide returns nil where the product with g can't be undone.
func plainDivide(n int, f, g []int) []int {
	var rows [][]int
	for x := range n {
		var row []int
		for y := range n {
			row = append(row, g[(x-y+n)%n])
		}
		rows = append(rows, row)
	}
	return plainSolution(rows, f, primeOf[n])
}

func plainPower(n int, f []int) []int {
	spectrum := plainSpectrum(n, f)
	power := []int{spectrum[0] * spectrum[0] % primeOf[n]}
	for k := 1; k < n; k++ {
		power = append(power, spectrum[k]*spectrum[n-k]%primeOf[n])
	}
	return power
}

func plainChord(n, chord int) []int {
	f := make([]int, n)
	for _, tone := range plainTones(n, chord) {
		f[tone] = 1
	}
	return f
}

func plainSilent(n, chord int) int {
	set := 0
	for k, number := range plainSpectrum(n, plainChord(n, chord)) {
		if number == 0 {
			set += 1 << k
		}
	}
	return set
}

// plainDifferences returns how often each difference occurs among ordered pairs of different tones.
func plainDifferences(n, chord int) [16]int {
	var counts [16]int
	for _, x := range plainTones(n, chord) {
		for _, y := range plainTones(n, chord) {
			if x != y {
				counts[(x-y+n)%n]++
			}
		}
	}
	return counts
}

func plainFlat(n, chord int) bool {
	return len(slices.Compact(plainPower(n, plainChord(n, chord))[1:])) == 1
}

// plainMove takes k from 0 on.
func plainMove(n int, f []int, k int) []int {
	moved := make([]int, n)
	for x := range n {
		moved[(x+k)%n] = f[x]
	}
	return moved
}

func plainTurn(n int, f []int) []int {
	turned := slices.Clone(f)
	slices.Reverse(turned[1:])
	return turned
}

// plainSolve tries all sets of indices and sums the wheels as numbers. It returns whether there is one.
func plainSolve(n, target int, list []int) ([]int, bool) {
	var first []int
	found := false
	for set := range 1 << len(list) {
		var sum [16]int
		var indices []int
		for i, chord := range list {
			if !plainHas(set, i) {
				continue
			}
			indices = append(indices, i)
			for _, tone := range plainTones(n, chord) {
				sum[tone]++
			}
		}
		if !slices.Equal(sum[:n], plainChord(n, target)) {
			continue
		}
		if !found || slices.Compare(indices, first) < 0 {
			first, found = indices, true
		}
	}
	return first, found
}
