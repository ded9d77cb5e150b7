package voices_test

import (
	"math"
	"slices"
)

// The functions of this file do what the chapter says in the plainest way, so that the tests have something to hold the package against. They call nothing of it.

// odd are numbers at and beyond the borders of what arguments may be.
var odd = []int{math.MinInt, math.MinInt + 1, math.MinInt32, -64, -17, -16, -7, -6, -5, -4, -3, -2, -1, 0, 1, 2, 3, 4, 5, 6, 7, 8, 9, 11, 12, 13, 15, 16, 17, 18, 63, 64, 65, 128, 1 << 16, math.MaxInt32, 1 << 32, 1 << 62, math.MaxInt - 1, math.MaxInt}

// oddVoicings are voicings of some circles, and slices that are voicings of none.
var oddVoicings = [][]int{
	nil, {}, {0}, {1}, {2}, {15}, {16}, {-1}, {0, 1}, {1, 0}, {0, 2}, {0, -1}, {-1, 0}, {2, 16}, {16, 2}, {0, 0, 0}, {0, 1, 2}, {0, 4, 7}, {0, 4, 12}, {11, -1, 3}, {0, 4, 7, 10}, {0, 15, 16, 1},
	{0, 1, 0, 1, 0, 1}, {0, 1, 0, 1, 0, 1, 0}, {0, 0, 0, 0, 0, 0, 0, 0}, {0, 1, 2, 3, 4, 5}, {0, 1, 2, 3, 4, 16}, {-1, 1, 2, 3, 4, 5}, {0, 1, 0, 2, 0}, {0, 3, 0, 3, 0},
	{math.MinInt}, {math.MaxInt}, {0, math.MinInt}, {math.MaxInt, 0, 1}, {1, math.MinInt + 1, 2}, {math.MaxInt, math.MinInt}, make([]int, 64), make([]int, 1<<20),
}

// pair is two voicings of a circle of n tones.
type pair struct {
	n    int
	a, b []int
}

// power returns how many voicings with k tones there are.
func power(n, k int) int {
	product := 1
	for range k {
		product *= n
	}
	return product
}

// numbered returns the voicing with a number, from 0 on.
func numbered(n, k, number int) []int {
	tones := make([]int, k)
	for i := range tones {
		tones[i] = number % n
		number /= n
	}
	return tones
}

// scattered returns a number below total that the next one tells nothing of: the tests take some of many by it.
func scattered(i, total int) int {
	mixed := (uint64(i) + 1) * 0x9E3779B97F4A7C15
	mixed ^= mixed >> 29
	mixed *= 0xBF58476D1CE4E5B9
	mixed ^= mixed >> 32
	return int(mixed % uint64(total))
}

// pairsOf yields pairs of voicings of k tones: all of them if they are at most so many, else so many of them, and those that are special.
func pairsOf(n, k, most int) func(yield func(pair) bool) {
	return func(yield func(pair) bool) {
		voicings := power(n, k)
		total := voicings * voicings
		for i := range min(total, most) {
			number := i
			if total > most {
				number = scattered(i, total)
			}
			if !yield(pair{n, numbered(n, k, number%voicings), numbered(n, k, number/voicings)}) {
				return
			}
		}
		if total <= most {
			return
		}
		for i := range most / 50 {
			a := numbered(n, k, scattered(i, voicings))
			for _, b := range related(n, a) {
				if !yield(pair{n, a, b}) || !yield(pair{n, b, a}) {
					return
				}
			}
		}
	}
}

// related returns voicings with many leadings of the same cost, or of cost 0, from a.
func related(n int, a []int) [][]int {
	backward := slices.Clone(a)
	slices.Reverse(backward)
	var up, half, turned, same, near []int
	for i, tone := range a {
		up = append(up, (tone+1)%n)
		half = append(half, (tone+n/2)%n)
		turned = append(turned, (n-tone)%n)
		same = append(same, a[0])
		near = append(near, (tone+i%3+n-1)%n)
	}
	return [][]int{slices.Clone(a), backward, up, half, turned, same, near}
}

// somePairs yields pairs of all circles and lengths.
func somePairs(yield func(pair) bool) {
	for n := 2; n <= 16; n++ {
		for k := 1; k <= 6; k++ {
			most := 16000
			if power(n, 2*k) > most {
				most = 600
			}
			for p := range pairsOf(n, k, most) {
				if !yield(p) {
					return
				}
			}
		}
	}
}

// fewPairs yields pairs for tests that take long.
func fewPairs(yield func(pair) bool) {
	for n := 2; n <= 16; n++ {
		for k := 1; k <= 6; k++ {
			for p := range pairsOf(n, k, 200) {
				if !yield(p) {
					return
				}
			}
		}
	}
}

func plainIsVoicing(n int, tones []int) bool {
	if n < 2 || n > 16 || len(tones) < 1 || len(tones) > 6 {
		return false
	}
	return slices.Min(tones) >= 0 && slices.Max(tones) <= n-1
}

// plainMovement goes farther and farther, upward first.
func plainMovement(n, from, to int) int {
	for far := 0; ; far++ {
		if (from+far)%n == to {
			return far
		}
		if (from-far+n)%n == to {
			return -far
		}
	}
}

func plainDistance(n, x, y int) int {
	far := plainMovement(n, x, y)
	if far < 0 {
		return -far
	}
	return far
}

// leads are all leadings of k voices, at k.
var leads = [7][][]int{1: plainLeads(1), 2: plainLeads(2), 3: plainLeads(3), 4: plainLeads(4), 5: plainLeads(5), 6: plainLeads(6)}

// plainLeads returns all leadings of k voices in order.
func plainLeads(k int) [][]int {
	var list [][]int
	for number := range power(k, k) {
		lead := numbered(k, k, number)
		slices.Reverse(lead)
		if plainIsLead(k, lead) {
			list = append(list, lead)
		}
	}
	return list
}

func plainIsLead(k int, lead []int) bool {
	if len(lead) != k {
		return false
	}
	rising := plainSorted(lead)
	for i := range rising {
		if rising[i] != i {
			return false
		}
	}
	return true
}

func plainSorted(list []int) []int {
	rising := slices.Clone(list)
	for i := range rising {
		for j := range i {
			if rising[i] < rising[j] {
				rising[i], rising[j] = rising[j], rising[i]
			}
		}
	}
	return rising
}

func plainPrice(n int, a, b, lead []int) int {
	sum := 0
	for i := range a {
		sum += plainDistance(n, a[i], b[lead[i]])
	}
	return sum
}

func plainCost(n int, a, b []int) int {
	var far [6][6]int
	for i := range a {
		for j := range b {
			far[i][j] = plainDistance(n, a[i], b[j])
		}
	}
	least := math.MaxInt
	for _, lead := range leads[len(a)] {
		sum := 0
		for i, place := range lead {
			sum += far[i][place]
		}
		least = min(least, sum)
	}
	return least
}

func plainLead(n int, a, b []int) []int {
	least := plainCost(n, a, b)
	for _, lead := range leads[len(a)] {
		if plainPrice(n, a, b, lead) == least {
			return lead
		}
	}
	return nil
}

// plainCross looks at all times between 0 and 1 with denominators up to n: two voices change their distance by less than n, so they are at the same point at no other time.
func plainCross(n int, a, b, lead []int) bool {
	for i := range a {
		for j := range a {
			if a[i] == a[j] {
				continue
			}
			m, o := plainMovement(n, a[i], b[lead[i]]), plainMovement(n, a[j], b[lead[j]])
			for parts := 2; parts <= n; parts++ {
				for part := 1; part < parts; part++ {
					if (a[i]*parts+part*m-a[j]*parts-part*o)%(n*parts) == 0 {
						return true
					}
				}
			}
		}
	}
	return false
}

func plainCalm(n int, a, b []int) []int {
	least := plainCost(n, a, b)
	for _, lead := range leads[len(a)] {
		if plainPrice(n, a, b, lead) == least && !plainCross(n, a, b, lead) {
			return lead
		}
	}
	return nil
}

func plainIsPath(n int, a, b []int, path [][]int) bool {
	if len(path) == 0 || !slices.Equal(path[0], a) || !slices.Equal(plainSorted(path[len(path)-1]), plainSorted(b)) {
		return false
	}
	for i := 1; i < len(path); i++ {
		if len(path[i]) != len(a) || !plainIsVoicing(n, path[i]) {
			return false
		}
		differ := 0
		for voice, tone := range path[i-1] {
			next := path[i][voice]
			if next != tone {
				differ++
				if next != (tone+1)%n && tone != (next+1)%n {
					return false
				}
			}
		}
		if differ != 1 {
			return false
		}
	}
	return true
}

// plainImages returns all images, each with its tones rising, none of them left out that comes twice.
func plainImages(n int, b []int) [][]int {
	var list [][]int
	for k := 0; k < n; k++ {
		var moved, turned []int
		for _, tone := range b {
			moved = append(moved, (tone+k)%n)
			turned = append(turned, (k-tone+n)%n)
		}
		list = append(list, plainSorted(moved), plainSorted(turned))
	}
	return list
}

func plainBefore(a, b []int) bool {
	for i := range a {
		if a[i] != b[i] {
			return a[i] < b[i]
		}
	}
	return false
}

func plainNear(n int, a, b []int) ([]int, int) {
	least := math.MaxInt
	for _, image := range plainImages(n, b) {
		least = min(least, plainCost(n, a, image))
	}
	var first []int
	for _, image := range plainImages(n, b) {
		if plainCost(n, a, image) == least && (first == nil || plainBefore(image, first)) {
			first = image
		}
	}
	return first, least
}

// plainRising returns all voicings of k tones with the tones rising, in order.
func plainRising(n, k int) [][]int {
	if k == 0 {
		return [][]int{{}}
	}
	var list [][]int
	for _, tones := range plainRising(n, k-1) {
		for tone := range n {
			if len(tones) == 0 || tone >= tones[len(tones)-1] {
				list = append(list, slices.Concat(tones, []int{tone}))
			}
		}
	}
	return list
}

func plainSum(n int, tones []int, list [][]int) int {
	sum := 0
	for _, other := range list {
		sum += plainCost(n, tones, other)
	}
	return sum
}

func plainMiddle(n, k int, list [][]int) []int {
	var best []int
	for _, tones := range plainRising(n, k) {
		if best == nil || plainSum(n, tones, list) < plainSum(n, best, list) {
			best = tones
		}
	}
	return best
}

// plainBalls returns the balls of the costs 0 to 4.
func plainBalls(n int, a []int, all [][]int) [5][][]int {
	var balls [5][][]int
	for _, tones := range all {
		least := plainCost(n, a, tones)
		for cost := range balls {
			if least <= cost {
				balls[cost] = append(balls[cost], tones)
			}
		}
	}
	return balls
}
