package rows_test

import (
	"math"
	"slices"
	"sync"
)

// The functions of this file do what the chapter says in the plainest way, so that the tests have something to hold the package against. They call nothing of it.

// odd are numbers at and beyond the borders of what arguments may be.
var odd = []int{math.MinInt, math.MinInt + 1, math.MinInt32, -64, -11, -10, -9, -3, -2, -1, 0, 1, 2, 3, 4, 5, 6, 7, 8, 9, 10, 11, 12, 63, 64, 65, 128, 1 << 16, math.MaxInt32, 1 << 32, 1 << 62, math.MaxInt - 1, math.MaxInt}

// oddRows are slices that are no rows.
var oddRows = [][]int{
	nil, {}, {0}, {1}, {-1}, {0, 0}, {1, 1}, {1, 2}, {0, 2}, {0, -1}, {-1, -2}, {0, 64}, {0, 65}, {64, 1}, {0, 1, 1}, {1, 2, 3}, {0, 1, 3}, {0, -2, 2}, {0, 1, 2, 2}, {3, 2, 1, 3}, {0, 1, 2, 4},
	{0, math.MinInt}, {math.MaxInt, 0, 1}, {1, math.MinInt + 1, 2}, {0, 1, 2, 3, 4, 5, 6, 7, 8, 8}, {0, 1, 2, 3, 4, 5, 6, 7, 8, 10}, {1, 2, 3, 4, 5, 6, 7, 8, 9, 10},
	plainEqual(11, 1), plainEqual(12, 1), plainEqual(12, 5), plainEqual(64, 1), plainEqual(65, 1), plainEqual(1<<16, 1), make([]int, 10), make([]int, 1<<20),
}

// rowsOf yields rows with n tones: all of them up to 7, and of longer ones some that lie far apart, and those of all special sorts.
func rowsOf(n int) func(yield func([]int) bool) {
	return func(yield func([]int) bool) {
		step := 1
		if n > 7 {
			step = plainCount(n)/1511 | 1
		}
		for number := 0; number < plainCount(n); number += step {
			if !yield(plainRow(n, number)) {
				return
			}
		}
		if n > 7 {
			for _, row := range specialRows(n) {
				if !yield(row) {
					return
				}
			}
		}
	}
}

// kept are the lists that take long to make, by the number of tones.
var kept [11]struct {
	every, special         [][]int
	everyOnce, specialOnce sync.Once
}

// specialRows are rows of equal steps, rows in which every step comes, and rows that are made of one part.
func specialRows(n int) [][]int {
	k := &kept[n]
	k.specialOnce.Do(func() {
		for m := 1; m < n; m++ {
			if plainGCD(n, m) == 1 {
				k.special = append(k.special, plainEqual(n, m))
			}
		}
		for i, row := range plainEveryRows(n) {
			if i%13 == 0 {
				k.special = append(k.special, row)
			}
		}
		for d := 2; d <= n/2; d++ {
			if plainIsPart(n, d) {
				k.special = append(k.special, plainMadeRows(n, d)...)
			}
		}
	})
	return k.special
}

// someRows yields all rows that rowsOf has.
func someRows(yield func([]int) bool) {
	for n := 2; n <= 10; n++ {
		for row := range rowsOf(n) {
			if !yield(row) {
				return
			}
		}
	}
}

// plainCount returns how many rows with n tones there are.
func plainCount(n int) int {
	count := 1
	for i := 2; i <= n; i++ {
		count *= i
	}
	return count
}

// plainRow returns the row with a number, from 0 on, of all rows with n tones in order.
func plainRow(n, number int) []int {
	digits := make([]int, n)
	for i := n - 1; i >= 0; i-- {
		digits[i] = number % (n - i)
		number /= n - i
	}
	var rest, row []int
	for tone := 0; tone < n; tone++ {
		rest = append(rest, tone)
	}
	for _, digit := range digits {
		row = append(row, rest[digit])
		rest = slices.Delete(rest, digit, digit+1)
	}
	return row
}

// plainEqual returns the row in which every step is m.
func plainEqual(n, m int) []int {
	var row []int
	for i := 0; i < n; i++ {
		row = append(row, i*m%n)
	}
	return row
}

// plainMadeRows returns some rows that are made of one part of length d.
func plainMadeRows(n, d int) [][]int {
	var list [][]int
	var add func(row []int)
	add = func(row []int) {
		if len(row) == n {
			list = append(list, slices.Clone(row))
			return
		}
		for kind := 0; kind < 4; kind++ {
			for k := 0; k < n; k++ {
				if longer := slices.Concat(row, plainForm(n, row[:d], kind, k)); plainDifferent(longer) {
					add(longer)
				}
			}
		}
	}
	for number := 0; number < plainCount(n); number += plainCount(n)/61 | 1 {
		add(plainRow(n, number)[:d])
	}
	var some [][]int
	for i := 0; i < len(list); i += len(list)/100 + 1 {
		some = append(some, list[i])
	}
	return some
}

func plainDifferent(list []int) bool {
	for i := range list {
		for j := range list {
			if i != j && list[i] == list[j] {
				return false
			}
		}
	}
	return true
}

func plainGCD(a, b int) int {
	for d := b; ; d-- {
		if a%d == 0 && b%d == 0 {
			return d
		}
	}
}

func plainModulo(x, n int) int {
	for x < 0 {
		x += n
	}
	for x >= n {
		x -= n
	}
	return x
}

func plainIsRow(row []int) bool {
	if len(row) < 2 || len(row) > 10 {
		return false
	}
	for tone := 0; tone < len(row); tone++ {
		if !slices.Contains(row, tone) {
			return false
		}
	}
	return true
}

func plainSteps(row []int) []int {
	var list []int
	for i := 1; i < len(row); i++ {
		list = append(list, plainModulo(row[i]-row[i-1], len(row)))
	}
	return list
}

func plainEvery(row []int) bool {
	return plainDifferent(plainSteps(row))
}

// plainForm turns, then goes backward, then moves, one after the other.
func plainForm(n int, part []int, kind, k int) []int {
	made := slices.Clone(part)
	if kind == 1 || kind == 3 {
		for i := range made {
			made[i] = plainModulo(-made[i], n)
		}
	}
	if kind == 2 || kind == 3 {
		for i := range made {
			made[i], made[len(made)-1-i] = made[len(made)-1-i], made[i]
			if i+1 >= len(made)/2 {
				break
			}
		}
	}
	for range plainModulo(k, n) {
		for i := range made {
			made[i] = plainModulo(made[i]+1, n)
		}
	}
	return made
}

func plainBefore(a, b []int) bool {
	for i := range a {
		if a[i] != b[i] {
			return a[i] < b[i]
		}
	}
	return false
}

// plainForms puts each form before the first one that is not before it.
func plainForms(row []int) [][]int {
	var list [][]int
	for kind := 0; kind < 4; kind++ {
		for k := 0; k < len(row); k++ {
			made := plainForm(len(row), row, kind, k)
			place := 0
			for place < len(list) && plainBefore(list[place], made) {
				place++
			}
			if place == len(list) || plainBefore(made, list[place]) {
				list = slices.Insert(list, place, made)
			}
		}
	}
	return list
}

// plainWay returns [-1 -1] if there is none.
func plainWay(n int, a, b []int) [2]int {
	for kind := 0; kind < 4; kind++ {
		for k := 0; k < n; k++ {
			if slices.Equal(plainForm(n, a, kind, k), b) {
				return [2]int{kind, k}
			}
		}
	}
	return [2]int{-1, -1}
}

// plainEveryRows goes through all rows with n tones, and returns those in which every step comes, in order.
func plainEveryRows(n int) [][]int {
	k := &kept[n]
	k.everyOnce.Do(func() {
		row := make([]int, n)
		var put func(place, used int)
		put = func(place, used int) {
			if place == n {
				if plainEvery(row) {
					k.every = append(k.every, slices.Clone(row))
				}
				return
			}
			for tone := 0; tone < n; tone++ {
				if used>>tone&1 == 0 {
					row[place] = tone
					put(place+1, used|1<<tone)
				}
			}
		}
		put(0, 0)
	})
	return k.every
}

// plainFill returns nil if there is none.
func plainFill(begin []int, n int) []int {
	for _, row := range plainEveryRows(n) {
		if slices.Equal(row[:len(begin)], begin) {
			return row
		}
	}
	return nil
}

// plainFrom0 returns the rows that begin with 0 and have every step.
func plainFrom0(n int) [][]int {
	var list [][]int
	for _, row := range plainEveryRows(n) {
		if row[0] == 0 {
			list = append(list, row)
		}
	}
	return list
}

// plainHalves carries the first tone behind the last one until the step n / 2 has been cut. Every step must come.
func plainHalves(row []int) []int {
	n := len(row)
	left := slices.Clone(row)
	for {
		first, next := left[0], left[1]
		left = append(left[1:], first)
		if 2*(next-first) == n || 2*(first-next) == n {
			return left
		}
	}
}

func plainMade(row []int, d int) bool {
	n := len(row)
	for start := d; start < n; start += d {
		if plainWay(n, row[:d], row[start:start+d])[0] < 0 {
			return false
		}
	}
	return true
}

func plainIsPart(n, d int) bool {
	return d >= 2 && 2*d <= n && n%d == 0
}

func plainWith(row []int) [][2]int {
	n := len(row)
	var list [][2]int
	for kind := 0; kind < 4; kind++ {
		for k := 0; k < n; k++ {
			made := plainForm(n, row, kind, k)
			there := 0
			for tone := 0; tone < n; tone++ {
				if slices.Contains(row[:n/2], tone) || slices.Contains(made[:n/2], tone) {
					there++
				}
			}
			if there == n {
				list = append(list, [2]int{kind, k})
			}
		}
	}
	return list
}

func plainFollow(row []int, k int) int {
	n := len(row)
	count := 0
	for x := 0; x < n; x++ {
		if slices.Index(row, plainModulo(x+k, n)) > slices.Index(row, x) {
			count++
		}
	}
	return count
}
