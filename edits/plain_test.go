package edits_test

import (
	"iter"
	"math"
	"slices"
	"strings"

	"sackbut/edits"
)

// The functions of this file do what the chapter says in the plainest way, so that the tests have something to hold the package against. They call nothing of it.

// odd are numbers at and beyond the borders of what arguments may be.
var odd = []int{math.MinInt, math.MinInt + 1, math.MinInt32, -1 << 16, -1002, -1001, -1000, -999, -256, -255, -10, -9, -4, -3, -2, -1, 0, 1, 2, 3, 4, 5, 8, 9, 10, 11, 12, 13, 19, 20, 21, 24, 25, 97, 99, 100, 101, 102, 127, 128, 254, 255, 256, 257, 353, 998, 999, 1000, 1001, 1002, 1 << 16, math.MaxInt32, 1 << 32, 1<<32 + 1, 1 << 62, math.MaxInt - 1, math.MaxInt}

// alphabets are bytes of which the tests make lines: with their signs in either order, with such as are no text, and with some that are no letters.
var alphabets = []string{"ab", "ba", "\x00\xff", "\x7f\x80", "abc", "\xe2\x00z", "\xc3\xa9e ", "abcd", "a\x80\xff\x01b"}

// scattered returns a number below total that the next one tells nothing of: the tests take some of many by it.
func scattered(i, total int) int {
	mixed := (uint64(i) + 1) * 0x9E3779B97F4A7C15
	mixed ^= mixed >> 29
	mixed *= 0xBF58476D1CE4E5B9
	mixed ^= mixed >> 32
	return int(mixed % uint64(total))
}

// allLines returns all lines of the bytes of an alphabet up to a length, the shorter ones first.
func allLines(alphabet string, most int) []string {
	list := []string{""}
	for from, length := 0, 1; length <= most; length++ {
		to := len(list)
		for _, begin := range list[from:to] {
			for i := range len(alphabet) {
				list = append(list, begin+alphabet[i:i+1])
			}
		}
		from = to
	}
	return list
}

// someLine returns a line with a number: of any length, and of the bytes of an alphabet.
func someLine(alphabet string, number int) string {
	length := scattered(number, 13)
	line := make([]byte, length)
	for i := range line {
		line[i] = alphabet[scattered(number*31+i, len(alphabet))]
	}
	return string(line)
}

// somePair returns two lines with a number: any two, or one and what a few changes make of it.
func somePair(number int) (a, b string) {
	alphabet := alphabets[number%len(alphabets)]
	a = someLine(alphabet, scattered(number, 1<<20))
	if scattered(number+1, 3) > 0 {
		return a, someLine(alphabet, scattered(number, 1<<20)+1)
	}
	line := []byte(a)
	for i := range 1 + scattered(number+2, 4) {
		at := scattered(number*7+i, len(line)+1)
		letter := alphabet[scattered(number*11+i, len(alphabet))]
		switch scattered(number*13+i, 3) {
		case 0:
			line = slices.Insert(line, at, letter)
		case 1:
			line = slices.Delete(line, at, min(at+1, len(line)))
		case 2:
			line = slices.Replace(line, at, min(at+1, len(line)), letter)
		}
	}
	return a, string(line[:min(len(line), 12)])
}

// fewPrices are prices of which each one is once the least and once the greatest one, and swaps that are as dear as, dearer and less dear than to take a byte out and to put one in.
var fewPrices = []edits.Prices{{In: 1, Out: 1, Swap: 1}, {In: 1, Out: 1, Swap: 2}, {In: 1, Out: 1, Swap: 9}, {In: 2, Out: 3, Swap: 5}, {In: 3, Out: 2, Swap: 4}, {In: 3, Out: 2, Swap: 6}, {In: 9, Out: 1, Swap: 5}, {In: 1, Out: 9, Swap: 3}, {In: 9, Out: 9, Swap: 1}, {In: 9, Out: 9, Swap: 9}}

func allPrices(yield func(edits.Prices) bool) {
	for number := range 729 {
		if !yield(pricesOf(number)) {
			return
		}
	}
}

// pricesOf takes a number from 0 to 728.
func pricesOf(number int) edits.Prices {
	return edits.Prices{In: 1 + number/81, Out: 1 + number/9%9, Swap: 1 + number%9}
}

func plainIsLine(line string) bool {
	return len(line) < 13
}

func plainArePrices(p edits.Prices) bool {
	prices := []int{p.In, p.Out, p.Swap}
	return slices.Min(prices) > 0 && slices.Max(prices) < 10
}

func plainIsMelody(melody []int) bool {
	return len(melody) > 0 && len(melody) < 13 && slices.Min(melody) >= -1000 && slices.Max(melody) <= 1000
}

// plainRun does edits, and returns what came and whether they are a script from the line to that.
func plainRun(line string, s []edits.Edit) (string, bool) {
	var came []byte
	at := 0
	for _, e := range s {
		if e.Kind < 0 || e.Kind > 3 || e.Byte < 0 || e.Byte > 255 {
			return "", false
		}
		if e.Kind != 3 && at == len(line) {
			return "", false
		}
		if (e.Kind == 0 || e.Kind == 2) && e.Byte != 0 {
			return "", false
		}
		if e.Kind == 1 && byte(e.Byte) == line[at] {
			return "", false
		}
		if e.Kind == 0 {
			came = append(came, line[at])
		}
		if e.Kind == 1 || e.Kind == 3 {
			came = append(came, byte(e.Byte))
		}
		if e.Kind != 3 {
			at++
		}
	}
	if at < len(line) {
		return "", false
	}
	return string(came), true
}

func plainPrice(p edits.Prices, s []edits.Edit) int {
	sum := 0
	for _, e := range s {
		sum += []int{0, p.Swap, p.Out, p.In}[e.Kind]
	}
	return sum
}

// plainScripts returns all scripts from a to b.
func plainScripts(a, b string) [][]edits.Edit {
	if a == "" && b == "" {
		return [][]edits.Edit{nil}
	}
	var list [][]edits.Edit
	begin := func(e edits.Edit, rests [][]edits.Edit) {
		for _, rest := range rests {
			list = append(list, slices.Concat([]edits.Edit{e}, rest))
		}
	}
	if a != "" {
		begin(edits.Edit{Kind: 2}, plainScripts(a[1:], b))
	}
	if b != "" {
		begin(edits.Edit{Kind: 3, Byte: int(b[0])}, plainScripts(a, b[1:]))
	}
	if a != "" && b != "" && a[0] == b[0] {
		begin(edits.Edit{Kind: 0}, plainScripts(a[1:], b[1:]))
	}
	if a != "" && b != "" && a[0] != b[0] {
		begin(edits.Edit{Kind: 1, Byte: int(b[0])}, plainScripts(a[1:], b[1:]))
	}
	return list
}

// least returns the least cost of scripts, and how many have it.
func least(p edits.Prices, list [][]edits.Edit) (cost, ways int) {
	cost = math.MaxInt
	for _, s := range list {
		switch price := plainPrice(p, s); {
		case price < cost:
			cost, ways = price, 1
		case price == cost:
			ways++
		}
	}
	return cost, ways
}

// plainLeast returns the least cost, and how many scripts have it, of lines that have too many scripts to list: it looks at the last edit, and keeps what it found.
func plainLeast(a, b string, p edits.Prices) (cost, ways int) {
	known := map[[2]string][2]int{}
	var find func(a, b string) [2]int
	find = func(a, b string) [2]int {
		if a == "" && b == "" {
			return [2]int{0, 1}
		}
		if found, ok := known[[2]string{a, b}]; ok {
			return found
		}
		best := [2]int{math.MaxInt, 0}
		take := func(found [2]int, price int) {
			if found[0]+price < best[0] {
				best = [2]int{found[0] + price, 0}
			}
			if found[0]+price == best[0] {
				best[1] += found[1]
			}
		}
		if a != "" {
			take(find(a[:len(a)-1], b), p.Out)
		}
		if b != "" {
			take(find(a, b[:len(b)-1]), p.In)
		}
		if a != "" && b != "" {
			price := p.Swap
			if a[len(a)-1] == b[len(b)-1] {
				price = 0
			}
			take(find(a[:len(a)-1], b[:len(b)-1]), price)
		}
		known[[2]string{a, b}] = best
		return best
	}
	found := find(a, b)
	return found[0], found[1]
}

func plainAreHeights(a, b string, p edits.Prices, h [][]int) bool {
	if len(h) != len(a)+1 {
		return false
	}
	for _, row := range h {
		if len(row) != len(b)+1 || slices.Min(row) < -1000 || slices.Max(row) > 1000 {
			return false
		}
	}
	for i := range len(a) + 1 {
		for j := range len(b) + 1 {
			if i < len(a) && h[i+1][j]-h[i][j] > p.Out {
				return false
			}
			if j < len(b) && h[i][j+1]-h[i][j] > p.In {
				return false
			}
			if i < len(a) && j < len(b) && a[i] == b[j] && h[i+1][j+1] > h[i][j] {
				return false
			}
			if i < len(a) && j < len(b) && a[i] != b[j] && h[i+1][j+1]-h[i][j] > p.Swap {
				return false
			}
		}
	}
	return h[0][0] == 0
}

// plainComes reports whether a string comes from another one by taking bytes out.
func plainComes(x, from string) bool {
	for _, letter := range []byte(x) {
		at := strings.IndexByte(from, letter)
		if at < 0 {
			return false
		}
		from = from[at+1:]
	}
	return true
}

// plainCommon takes all sets of bytes of a.
func plainCommon(a, b string) string {
	best := ""
	for set := range 1 << len(a) {
		var x []byte
		for i := range len(a) {
			if set>>i%2 == 1 {
				x = append(x, a[i])
			}
		}
		if len(x) < len(best) || !plainComes(string(x), b) {
			continue
		}
		if len(x) > len(best) || string(x) < best {
			best = string(x)
		}
	}
	return best
}

// plainJoined goes through all strings of the bytes of an alphabet, which are in order, the shorter ones first.
func plainJoined(a, b, alphabet string) string {
	letters := []byte(alphabet)
	slices.Sort(letters)
	list := []string{""}
	for {
		for _, x := range list {
			if plainComes(a, x) && plainComes(b, x) {
				return x
			}
		}
		var longer []string
		for _, begin := range list {
			for _, letter := range letters {
				longer = append(longer, begin+string([]byte{letter}))
			}
		}
		list = longer
	}
}

// plainJoinedLong puts the least byte behind the other ones with which the shortest strings still go on. It tells from what is left of a and b how long they are.
func plainJoinedLong(a, b string) string {
	known := map[[2]string]int{}
	var length func(a, b string) int
	after := func(letter byte, line string) string {
		return strings.TrimPrefix(line[:min(1, len(line))], string([]byte{letter})) + line[min(1, len(line)):]
	}
	length = func(a, b string) int {
		if a == "" || b == "" {
			return len(a) + len(b)
		}
		if found, ok := known[[2]string{a, b}]; ok {
			return found
		}
		found := 1 + min(length(after(a[0], a), after(a[0], b)), length(after(b[0], a), after(b[0], b)))
		known[[2]string{a, b}] = found
		return found
	}
	var joined []byte
	for a != "" || b != "" {
		for letter := range 256 {
			x, y := after(byte(letter), a), after(byte(letter), b)
			if (x != a || y != b) && length(x, y) == length(a, b)-1 {
				joined = append(joined, byte(letter))
				a, b = x, y
				break
			}
		}
	}
	return string(joined)
}

// plainWaysOver returns all ways over two melodies with a and b notes, in order.
func plainWaysOver(a, b int) [][][2]int {
	var list [][][2]int
	var walk func(way [][2]int)
	walk = func(way [][2]int) {
		i, j := way[len(way)-1][0], way[len(way)-1][1]
		if i == a-1 && j == b-1 {
			list = append(list, way)
			return
		}
		for _, next := range [][2]int{{i, j + 1}, {i + 1, j}, {i + 1, j + 1}} {
			if next[0] < a && next[1] < b {
				walk(slices.Concat(way, [][2]int{next}))
			}
		}
	}
	walk([][2]int{{0, 0}})
	return list
}

func plainDifference(x, y int) int {
	if x < y {
		return y - x
	}
	return x - y
}

func plainCostOver(a, b []int, way [][2]int) int {
	sum := 0
	for _, at := range way {
		sum += plainDifference(a[at[0]], b[at[1]])
	}
	return sum
}

func comparePairs(x, y [2]int) int {
	return slices.Compare(x[:], y[:])
}

// plainIsWay reports whether a slice of pairs is a way over two melodies.
func plainIsWay(a, b []int, way [][2]int) bool {
	if len(way) == 0 || way[0] != [2]int{0, 0} || way[len(way)-1] != [2]int{len(a) - 1, len(b) - 1} {
		return false
	}
	for k := 1; k < len(way); k++ {
		step := [2]int{way[k][0] - way[k-1][0], way[k][1] - way[k-1][1]}
		if step != [2]int{0, 1} && step != [2]int{1, 0} && step != [2]int{1, 1} {
			return false
		}
	}
	return true
}

// plainOver returns the least cost and the first way with it, of melodies that have too many ways to list: it keeps the first ways from the pairs on.
func plainOver(a, b []int) (int, [][2]int) {
	known := map[[2]int][][2]int{}
	var first func(at [2]int) [][2]int
	first = func(at [2]int) [][2]int {
		if at == [2]int{len(a) - 1, len(b) - 1} {
			return [][2]int{at}
		}
		if found, ok := known[at]; ok {
			return found
		}
		var best [][2]int
		for _, next := range [][2]int{{at[0] + 1, at[1] + 1}, {at[0] + 1, at[1]}, {at[0], at[1] + 1}} {
			if next[0] >= len(a) || next[1] >= len(b) {
				continue
			}
			way := slices.Concat([][2]int{at}, first(next))
			cost := plainCostOver(a, b, way)
			if best == nil || cost < plainCostOver(a, b, best) || cost == plainCostOver(a, b, best) && slices.CompareFunc(way, best, comparePairs) < 0 {
				best = way
			}
		}
		known[at] = best
		return best
	}
	way := first([2]int{0, 0})
	return plainCostOver(a, b, way), way
}

// allMelodies returns all melodies up to a length whose numbers are among the given ones.
func allMelodies(numbers []int, most int) [][]int {
	list := [][]int{nil}
	for from, length := 0, 1; length <= most; length++ {
		to := len(list)
		for _, begin := range list[from:to] {
			for _, number := range numbers {
				list = append(list, slices.Concat(begin, []int{number}))
			}
		}
		from = to
	}
	return list[1:]
}

// someMelody returns a melody with a number: of numbers that are near each other, that are far, or that come again.
func someMelody(number int) []int {
	melody := make([]int, 1+scattered(number, 12))
	for i := range melody {
		at := number*17 + i
		switch number % 4 {
		case 0:
			melody[i] = scattered(at, 4)
		case 1:
			melody[i] = scattered(at, 2001) - 1000
		case 2:
			melody[i] = []int{-1000, -1, 0, 1, 1000}[scattered(at, 5)]
		case 3:
			melody[i] = scattered(at/3, 21)
		}
	}
	return melody
}

// somePairsOver yields pairs of melodies: any two, and one that is the other one with repeated notes, or with notes a little higher or lower.
func somePairsOver(most int) iter.Seq2[[]int, []int] {
	return func(yield func(a, b []int) bool) {
		for number := range most {
			a, b := someMelody(number), someMelody(scattered(number, 1<<20))
			if number%5 == 0 {
				b = nil
				for i, x := range a {
					b = append(b, slices.Repeat([]int{x}, 1+scattered(number+i, 2))...)
				}
				b = b[:min(len(b), 12)]
			}
			if number%5 == 1 {
				b = slices.Clone(a)
				for i := range b {
					b[i] = max(-1000, min(1000, b[i]+scattered(number+i, 3)-1))
				}
			}
			if !yield(a, b) {
				return
			}
		}
	}
}
