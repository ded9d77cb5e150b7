// Package chords is layer 1: it compares chords, which are sets of tones on a circle, by their images, their distances and the tones that they have in common (shared/doc/01-chords.md).
package chords

import (
	"iter"
	"math/bits"
	"slices"

	"sackbut/api"
)

// maxListed is the size of the greatest circle of which Primes and Twins list all chords.
const maxListed = 12

// traits is what twins have in common: the number of tones, then the vector. The number is not idle: the chord of no tone and that of one have the same vector.
type traits [1 + api.MaxTones/2]int

// Move returns a chord moved by k.
func Move(n, chord, k int) (int, api.Errno) {
	if !valid(n, chord) {
		return 0, api.ErrArg
	}
	return move(n, chord, k), api.OK
}

// Turn returns a chord turned.
func Turn(n, chord int) (int, api.Errno) {
	if !valid(n, chord) {
		return 0, api.ErrArg
	}
	return turn(n, chord), api.OK
}

// Times returns a chord multiplied by m.
func Times(n, chord, m int) (int, api.Errno) {
	if !valid(n, chord) || m < 1 || m >= n || commonDivisor(n, m) != 1 {
		return 0, api.ErrArg
	}
	return multiply(n, chord, m), api.OK
}

// Vector returns how often each distance occurs.
func Vector(n, chord int) ([]int, api.Errno) {
	if !valid(n, chord) {
		return nil, api.ErrArg
	}
	return vector(n, chord), api.OK
}

// Prime returns the prime form.
func Prime(n, chord int) (int, api.Errno) {
	if !valid(n, chord) {
		return 0, api.ErrArg
	}
	return prime(n, chord), api.OK
}

// Class returns all images, rising.
func Class(n, chord int) ([]int, api.Errno) {
	if !valid(n, chord) {
		return nil, api.ErrArg
	}
	return slices.Compact(slices.Sorted(images(n, chord))), api.OK
}

// Way returns how a becomes b.
func Way(n, a, b int) (k int, turned bool, e api.Errno) {
	if !valid(n, a, b) {
		return 0, false, api.ErrArg
	}
	if moves := movesBetween(n, a, b); len(moves) > 0 {
		return moves[0], false, api.OK
	}
	if moves := movesBetween(n, turn(n, a), b); len(moves) > 0 {
		return moves[0], true, api.OK
	}
	return 0, false, api.ErrNone
}

// Primes returns all prime forms with size tones, rising.
func Primes(n, size int) ([]int, api.Errno) {
	if !valid(n) || n > maxListed || size < 0 || size > n {
		return nil, api.ErrArg
	}
	var list []int
	for form := range primeForms(n) {
		if tonesIn(form) == size {
			list = append(list, form)
		}
	}
	return list, api.OK
}

// Twins returns all pairs of twins, rising.
func Twins(n int) ([][2]int, api.Errno) {
	if !valid(n) || n > maxListed {
		return nil, api.ErrArg
	}
	var pairs [][2]int
	alike := map[traits][]int{}
	for form := range primeForms(n) {
		key := traitsOf(n, form)
		for _, lesser := range alike[key] {
			pairs = append(pairs, [2]int{lesser, form})
		}
		alike[key] = append(alike[key], form)
	}
	slices.SortFunc(pairs, func(x, y [2]int) int { return slices.Compare(x[:], y[:]) })
	return pairs, api.OK
}

// Common returns how many tones a has in common with b after each move of b.
func Common(n, a, b int) ([]int, api.Errno) {
	if !valid(n, a, b) {
		return nil, api.ErrArg
	}
	counts := make([]int, n)
	for k := range counts {
		counts[k] = tonesIn(a & move(n, b, k))
	}
	return counts, api.OK
}

// Still returns how many moves keep a chord, and how many do after it is turned.
func Still(n, chord int) (moves, turns int, e api.Errno) {
	if !valid(n, chord) {
		return 0, 0, api.ErrArg
	}
	moves = len(movesBetween(n, chord, chord))
	turns = len(movesBetween(n, turn(n, chord), chord))
	return moves, turns, api.OK
}

// Deep reports whether all distances that occur do so differently often.
func Deep(n, chord int) (bool, api.Errno) {
	if !valid(n, chord) {
		return false, api.ErrArg
	}
	seen := map[int]bool{}
	for _, count := range vector(n, chord) {
		if count != 0 && seen[count] {
			return false, api.OK
		}
		seen[count] = true
	}
	return true, api.OK
}

// valid looks at n first, because only a valid n says which chords there are.
func valid(n int, chords ...int) bool {
	if n < 2 || n > api.MaxTones {
		return false
	}
	for _, chord := range chords {
		if chord < 0 || chord >= 1<<n {
			return false
		}
	}
	return true
}

// modulo reduces x before it adds n, so that no x is too large for it.
func modulo(x, n int) int {
	return (x%n + n) % n
}

func commonDivisor(a, b int) int {
	for b != 0 {
		a, b = b, a%b
	}
	return a
}

// tones yields the tones of a chord, rising.
func tones(chord int) iter.Seq[int] {
	return func(yield func(int) bool) {
		for rest := uint(chord); rest != 0; rest &= rest - 1 {
			if !yield(bits.TrailingZeros(rest)) {
				return
			}
		}
	}
}

func tonesIn(chord int) int {
	return bits.OnesCount(uint(chord))
}

func move(n, chord, k int) int {
	up := modulo(k, n)
	return (chord<<up | chord>>(n-up)) & (1<<n - 1)
}

func multiply(n, chord, m int) int {
	product := 0
	for tone := range tones(chord) {
		product |= 1 << modulo(tone*m, n)
	}
	return product
}

func turn(n, chord int) int {
	return multiply(n, chord, -1)
}

// images yields all images of a chord; one that comes in several ways comes as often.
func images(n, chord int) iter.Seq[int] {
	return func(yield func(int) bool) {
		for _, start := range [2]int{chord, turn(n, chord)} {
			for k := range n {
				if !yield(move(n, start, k)) {
					return
				}
			}
		}
	}
}

func prime(n, chord int) int {
	least := chord
	for image := range images(n, chord) {
		least = min(least, image)
	}
	return least
}

// isPrime stops at the first lesser image: most chords have one among the first few, and lists ask for all chords.
func isPrime(n, chord int) bool {
	for image := range images(n, chord) {
		if image < chord {
			return false
		}
	}
	return true
}

// primeForms yields all prime forms of a circle, rising.
func primeForms(n int) iter.Seq[int] {
	return func(yield func(int) bool) {
		for chord := range 1 << n {
			if isPrime(n, chord) && !yield(chord) {
				return
			}
		}
	}
}

func vector(n, chord int) []int {
	counts := make([]int, n/2)
	for low := range tones(chord) {
		for high := range tones(chord) {
			if low < high {
				counts[min(high-low, n-(high-low))-1]++
			}
		}
	}
	return counts
}

// traitsOf copies the vector, because a slice is no key of a map.
func traitsOf(n, chord int) traits {
	key := traits{tonesIn(chord)}
	copy(key[1:], vector(n, chord))
	return key
}

// movesBetween returns all moves that make b of a, rising.
func movesBetween(n, a, b int) []int {
	var moves []int
	for k := range n {
		if move(n, a, k) == b {
			moves = append(moves, k)
		}
	}
	return moves
}
