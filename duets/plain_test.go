package duets_test

import (
	"math"
	"slices"
)

// The functions of this file do what the chapter says in the plainest way, so that the tests have something to hold the package against. They call nothing of it.

// odd are numbers at and beyond the borders of what arguments may be.
var odd = []int{math.MinInt, math.MinInt + 1, math.MinInt32, -64, -22, -21, -20, -19, -14, -8, -7, -6, -5, -4, -3, -2, -1, 0, 1, 2, 3, 4, 5, 6, 7, 8, 9, 11, 13, 14, 15, 19, 20, 21, 22, 64, 1 << 16, math.MaxInt32, 1 << 32, 1 << 62, math.MaxInt - 20, math.MaxInt - 1, math.MaxInt}

// oddParts are parts, and slices that are none.
var oddParts = [][]int{
	nil, {}, {0}, {5}, {13}, {14}, {20}, {21}, {-1}, {0, 0}, {7, 7}, {0, 21}, {21, 0}, {0, -1}, {-1, 0}, {20, 20}, {0, 1, 0}, {7, 6, 7}, {0, 21, 0}, {0, -1, 0}, {20, 0, 20}, {0, 1, 2, 3}, {4, 7, 5, 7},
	{0, 1, 2, 3, 4, 5, 6, 7}, {7, 6, 7, 9, 8, 7, 6, 7}, {0, 0, 0, 0, 0, 0, 0, 0}, {20, 20, 20, 20, 20, 20, 20, 20}, {0, 0, 0, 0, 0, 0, 0, 21}, {-1, 0, 0, 0, 0, 0, 0, 0}, {0, 1, 2, 3, 4, 5, 6, 7, 8}, {0, 0, 0, 0, 0, 0, 0, 0, 0},
	{math.MinInt}, {math.MaxInt}, {0, math.MinInt}, {math.MaxInt, 0}, {0, math.MaxInt, math.MinInt}, make([]int, 64), make([]int, 1<<20),
}

// power returns how many slices of so many notes there are.
func power(notes int) int {
	product := 1
	for range notes {
		product *= 21
	}
	return product
}

// numbered returns the slice of notes with a number, from 0 on.
func numbered(notes, number int) []int {
	part := make([]int, notes)
	for i := range part {
		part[i] = number % 21
		number /= 21
	}
	return part
}

// scattered returns a number below total that the next one tells nothing of: the tests take some of many by it.
func scattered(i, total int) int {
	mixed := (uint64(i) + 1) * 0x9E3779B97F4A7C15
	mixed ^= mixed >> 29
	mixed *= 0xBF58476D1CE4E5B9
	mixed ^= mixed >> 32
	return int(mixed % uint64(total))
}

// song returns a part that goes from a note by moves up to a greatest one, as far as the notes go.
func song(notes, start, move, number int) []int {
	part := []int{start}
	for i := range notes - 1 {
		next := part[i] + scattered(97*number+i, 2*move+1) - move
		part = append(part, max(0, min(20, next)))
	}
	return part
}

// songs yields so many parts of so many notes: some of any notes, and some that go up and down like melodies, low or high.
func songs(notes, most int) func(yield func([]int) bool) {
	return func(yield func([]int) bool) {
		for i := range most {
			part := numbered(notes, scattered(i, power(notes)))
			switch i % 8 {
			case 1, 2, 3:
				part = song(notes, scattered(i, 9), 1+i%3, i)
			case 4, 5:
				part = song(notes, scattered(i, 14), 3, i)
			case 6:
				part = song(notes, scattered(i, 21), 2, i)
			case 7:
				part = song(notes, 20-scattered(i, 6), 3, i)
			}
			if !yield(part) {
				return
			}
		}
	}
}

// someGivens yields all parts of up to three notes, and some of each greater length.
func someGivens(yield func([]int) bool) {
	for notes := 1; notes <= 3; notes++ {
		for number := range power(notes) {
			if !yield(numbered(notes, number)) {
				return
			}
		}
	}
	for notes := 4; notes <= 8; notes++ {
		for part := range songs(notes, 120) {
			if !yield(part) {
				return
			}
		}
	}
}

// fewGivens yields some parts of each length, for tests that take long.
func fewGivens(yield func([]int) bool) {
	for notes := 1; notes <= 8; notes++ {
		for part := range songs(notes, 56) {
			if !yield(part) {
				return
			}
		}
	}
	for _, part := range [][]int{{0, 0, 0, 0, 0, 0, 0, 0}, {6, 6, 6, 6, 6, 6, 6, 6}, {20, 20, 20, 20, 20, 20, 20, 20}, {0, 1, 2, 3, 4, 5, 6, 7}, {7, 6, 5, 4, 3, 2, 1, 0}, {0, 7, 0, 7, 0, 7, 0, 7}, {0, 20, 0, 20, 0, 20, 0, 20}} {
		if !yield(part) {
			return
		}
	}
}

func plainIsPart(part []int) bool {
	if len(part) < 1 || len(part) > 8 {
		return false
	}
	return plainAreNotes(part)
}

func plainAreNotes(part []int) bool {
	return len(part) == 0 || slices.Min(part) >= 0 && slices.Max(part) <= 20
}

// plainFaults returns the numbers of all rules that are not kept at an index, rising.
func plainFaults(given, second []int, i int) []int {
	var faults []int
	broken := func(rule int, is bool) {
		if is {
			faults = append(faults, rule)
		}
	}
	interval := second[i] - given[i]
	broken(1, interval < 0 || interval > 14)
	kind := (interval%7 + 7) % 7
	open := kind == 0 || kind == 4
	broken(2, kind == 1 || kind == 3 || kind == 6)
	if i == len(given)-1 {
		broken(3, interval != 0 && interval != 7 && interval != 14)
	} else if i == 0 {
		broken(3, interval != 0 && interval != 4 && interval != 7 && interval != 11 && interval != 14)
	}
	if i == 0 {
		return faults
	}
	from, to := second[i-1], second[i]
	broken(4, !slices.Contains([]int{0, 1, 2, 3, 4, 7}, plainSize(to-from)))
	last := ((from-given[i-1])%7 + 7) % 7
	broken(5, open && last == kind && from != to)
	bothUp := from < to && given[i-1] < given[i]
	bothDown := from > to && given[i-1] > given[i]
	broken(6, open && (bothUp || bothDown) && plainSize(to-from) != 1)
	if i == 1 {
		return faults
	}
	first := second[i-2]
	if from-first > 2 {
		broken(7, to != from-1 && to != from-2)
	}
	if first-from > 2 {
		broken(7, to != from+1 && to != from+2)
	}
	broken(8, first == from && from == to)
	return faults
}

func plainSize(move int) int {
	if move < 0 {
		return -move
	}
	return move
}

// plainCheck returns the rule 0 if all rules are kept.
func plainCheck(given, second []int) (index, rule int) {
	for i := range second {
		if faults := plainFaults(given, second, i); len(faults) > 0 {
			return i, faults[0]
		}
	}
	return 0, 0
}

func plainIsRight(given, second []int) bool {
	_, rule := plainCheck(given, second)
	return rule == 0
}

// plainBeginnings returns, for each length from 0 to that of the given part, all beginnings of that length that keep the rules, in order.
func plainBeginnings(given []int) [][][]int {
	lists := [][][]int{{{}}}
	for i := range given {
		var longer [][]int
		for _, begin := range lists[i] {
			for note := range 21 {
				second := slices.Concat(begin, []int{note})
				if len(plainFaults(given, second, i)) == 0 {
					longer = append(longer, second)
				}
			}
		}
		lists = append(lists, longer)
	}
	return lists
}

func plainRight(given []int) [][]int {
	return plainBeginnings(given)[len(given)]
}

func plainNext(given, begin []int) []int {
	if !plainIsRight(given, begin) {
		return nil
	}
	var notes []int
	for note := range 21 {
		if plainIsRight(given, slices.Concat(begin, []int{note})) {
			notes = append(notes, note)
		}
	}
	return notes
}

// plainStuck takes a given part that has no right second part.
func plainStuck(given []int) int {
	most := 0
	for length, list := range plainBeginnings(given) {
		if len(list) > 0 {
			most = length
		}
	}
	return most
}

func plainWorth(given, second []int) int {
	apart, steps, rests := 0, 0, 0
	for i := range len(given) - 1 {
		up := given[i+1] > given[i] && second[i+1] < second[i]
		down := given[i+1] < given[i] && second[i+1] > second[i]
		if up || down {
			apart++
		}
		switch plainSize(second[i+1] - second[i]) {
		case 0:
			rests++
		case 1:
			steps++
		}
	}
	return apart*3 + steps - rests
}

// plainBest takes all right second parts, of which there is one.
func plainBest(given []int, right [][]int) []int {
	best := right[0]
	for _, second := range right {
		if plainWorth(given, second) > plainWorth(given, best) {
			best = second
		}
	}
	return best
}

// plainLift returns nil if a note would be none.
func plainLift(part []int, by int) []int {
	var lifted []int
	for _, note := range part {
		to := -1
		for other := range 21 {
			if other-note == by {
				to = other
			}
		}
		if to < 0 {
			return nil
		}
		lifted = append(lifted, to)
	}
	return lifted
}

// plainCanSwap takes parts of the same length.
func plainCanSwap(given, second []int) bool {
	for i, note := range given {
		if note > 13 || second[i]-note > 7 {
			return false
		}
	}
	return plainIsRight(given, second)
}
