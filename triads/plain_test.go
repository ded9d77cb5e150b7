package triads_test

import (
	"math"
	"slices"
	"strings"

	"sackbut/triads"
)

// The functions of this file do what the chapter says in the plainest way, so that the tests have something to hold the package against. They call nothing of it.

// odd are numbers at and beyond the borders of what arguments may be.
var odd = []int{math.MinInt, math.MinInt + 1, math.MinInt32, -4096, -17, -16, -7, -2, -1, 0, 1, 3, 4, 5, 6, 7, 12, 15, 16, 17, 23, 24, 31, 32, 33, 145, 4095, 4096, 1<<16 - 1, 1 << 16, math.MaxInt32, 1 << 62, math.MaxInt - 1, math.MaxInt}

// oddWalks are strings that are no walks, and no steps.
var oddWalks = []string{
	"p", "l", "r", "Q", "PLX", "XPL", "P L", "PL ", " PL", "PL\n", "P\x00", "\x00", "\xff", "P\xc3", "PÉ", "Ｐ", "Р", "�",
	"\xc1\x90", // P in a form that is not allowed
	strings.Repeat("L", 61), strings.Repeat("PLR", 21), strings.Repeat("R", 60) + "x", strings.Repeat("PR", 1<<15),
}

// someWalks are walks of all sorts, among them the empty one and the longest ones.
var someWalks = []string{
	"", "P", "L", "R", "PL", "LP", "PR", "RP", "LR", "RL", "PP", "LL", "RR", "PLR", "RLP", "LPR", "PLP", "LRL",
	"PLRP", "PLPL", "RLRL", "LRPR", "PLRPLR", "PRLPRL", "LPLPLR", "LRLRLRLR", "PLPLPLPLPLP", "RPRPRPRPRLRLP",
	strings.Repeat("L", 59), strings.Repeat("R", 60), strings.Repeat("PL", 30), strings.Repeat("LR", 30), strings.Repeat("PLR", 20), strings.Repeat("PRL", 19) + "PR", strings.Repeat("LRP", 19) + "L",
}

// twelve is the Kind of the examples.
var twelve = triads.Kind{N: 12, A: 4, B: 7}

// kinds yields all Kinds.
func kinds(yield func(triads.Kind) bool) {
	for n := 6; n <= 16; n++ {
		for a := 1; a < n; a++ {
			for b := a + 1; b < n; b++ {
				if x := (triads.Kind{N: n, A: a, B: b}); plainIsKind(x) && !yield(x) {
					return
				}
			}
		}
	}
}

func plainIsKind(x triads.Kind) bool {
	if x.N < 6 || x.N > 16 || x.A < 1 || x.A >= x.B || x.B >= x.N {
		return false
	}
	return x.A != x.B-x.A && x.A != x.N-x.B && x.B-x.A != x.N-x.B
}

func plainIsTriad(x triads.Kind, triad int) bool {
	return plainIsKind(x) && triad >= 0 && triad <= 2*x.N-1
}

func plainIsWalk(walk string) bool {
	for i := 0; i < len(walk); i++ {
		if walk[i] != 'P' && walk[i] != 'L' && walk[i] != 'R' {
			return false
		}
	}
	return len(walk) <= 60
}

// plainSteps are all strings that Round takes.
var plainSteps = []string{"P", "L", "R", "PL", "LP", "PR", "RP", "LR", "RL", "PLR", "PRL", "LPR", "LRP", "RPL", "RLP"}

func plainModulo(x, n int) int {
	for x < 0 {
		x += n
	}
	for x >= n {
		x -= n
	}
	return x
}

func plainGCD(a, b int) int {
	for d := a; ; d-- {
		if a%d == 0 && b%d == 0 {
			return d
		}
	}
}

func setOf(tones ...int) int {
	set := 0
	for _, x := range tones {
		set |= 1 << x
	}
	return set
}

// plainOrdered returns the first, second and third tone of a triad.
func plainOrdered(x triads.Kind, triad int) [3]int {
	if triad < x.N {
		r := triad
		return [3]int{r, plainModulo(r+x.A, x.N), plainModulo(r+x.B, x.N)}
	}
	r := triad - x.N
	return [3]int{r, plainModulo(r-x.A, x.N), plainModulo(r-x.B, x.N)}
}

func plainTones(x triads.Kind, triad int) int {
	list := plainOrdered(x, triad)
	return setOf(list[:]...)
}

// plainFind returns -1 if there is none.
func plainFind(x triads.Kind, set int) int {
	for triad := 0; triad < 2*x.N; triad++ {
		if plainTones(x, triad) == set {
			return triad
		}
	}
	return -1
}

func plainStep(x triads.Kind, triad int, letter byte) int {
	r := triad % x.N
	switch {
	case triad < x.N && letter == 'P':
		return x.N + plainModulo(r+x.B, x.N)
	case triad < x.N && letter == 'L':
		return x.N + plainModulo(r+x.A+x.B, x.N)
	case triad < x.N && letter == 'R':
		return x.N + plainModulo(r+x.A, x.N)
	case letter == 'P':
		return plainModulo(r-x.B, x.N)
	case letter == 'L':
		return plainModulo(r-x.A-x.B, x.N)
	default:
		return plainModulo(r-x.A, x.N)
	}
}

func plainWalk(x triads.Kind, triad int, walk string) int {
	for i := 0; i < len(walk); i++ {
		triad = plainStep(x, triad, walk[i])
	}
	return triad
}

// plainShift shifts the tones and looks which triad has them.
func plainShift(x triads.Kind, triad, k int, turned bool) int {
	set := 0
	for _, tone := range plainOrdered(x, triad) {
		if turned {
			tone = -tone
		}
		set |= 1 << plainModulo(tone+k, x.N)
	}
	return plainFind(x, set)
}

// plainFar returns the numbers of steps of the shortest walks between all triads, and 99 where there is none.
func plainFar(x triads.Kind) [][]int {
	far := make([][]int, 2*x.N)
	for a := range far {
		far[a] = slices.Repeat([]int{99}, 2*x.N)
		far[a][a] = 0
		for _, letter := range []byte("PLR") {
			far[a][plainStep(x, a, letter)] = 1
		}
	}
	for by := range far {
		for a := range far {
			for b := range far {
				far[a][b] = min(far[a][b], far[a][by]+far[by][b])
			}
		}
	}
	for a := range far {
		for b := range far {
			far[a][b] = min(far[a][b], 99)
		}
	}
	return far
}

// plainWay knows how far all triads are, and so takes the first step that leads nearer. There must be a walk.
func plainWay(x triads.Kind, far [][]int, a, b int) string {
	walk := ""
	for a != b {
		for _, letter := range []byte("LPR") {
			if to := plainStep(x, a, letter); far[to][b] < far[a][b] {
				walk += string(rune(letter))
				a = to
				break
			}
		}
	}
	return walk
}

// plainEffect returns where a walk leads each triad, -1 standing for those that are not there.
func plainEffect(x triads.Kind, walk string) [32]int {
	var effect [32]int
	for triad := range effect {
		effect[triad] = -1
		if triad < 2*x.N {
			effect[triad] = plainWalk(x, triad, walk)
		}
	}
	return effect
}

// plainOrder repeats the walk with all triads at once.
func plainOrder(x triads.Kind, walk string) int {
	still := plainEffect(x, "")
	where := plainEffect(x, walk)
	k := 1
	for where != still {
		for triad := 0; triad < 2*x.N; triad++ {
			where[triad] = plainWalk(x, where[triad], walk)
		}
		k++
	}
	return k
}

// plainSize makes walks longer as long as that gives new effects.
func plainSize(x triads.Kind) int {
	known := map[[32]int]bool{plainEffect(x, ""): true}
	list := []string{""}
	for i := 0; i < len(list); i++ {
		for _, letter := range []string{"P", "L", "R"} {
			walk := list[i] + letter
			if effect := plainEffect(x, walk); !known[effect] {
				known[effect] = true
				list = append(list, walk)
			}
		}
	}
	return len(list)
}

// plainRound adds what one step leads to until nothing new comes.
func plainRound(x triads.Kind, triad int, steps string) []int {
	var there [32]bool
	there[triad] = true
	for range 2 * x.N {
		for from := 0; from < 2*x.N; from++ {
			for i := 0; there[from] && i < len(steps); i++ {
				there[plainStep(x, from, steps[i])] = true
			}
		}
	}
	var list []int
	for triad, ok := range there {
		if ok {
			list = append(list, triad)
		}
	}
	return list
}

// plainTour takes as many steps as there are triads: all must come before the last step, which leads to triad 0.
func plainTour(x triads.Kind, walk string) bool {
	if walk == "" {
		return false
	}
	var there [32]bool
	triad := 0
	for i := 0; i < 2*x.N; i++ {
		if there[triad] {
			return false
		}
		there[triad] = true
		triad = plainStep(x, triad, walk[i%len(walk)])
	}
	return triad == 0
}

// plainTours returns "" if there is none.
func plainTours(x triads.Kind) string {
	count := 1
	for length := 1; length <= 6; length++ {
		count *= 3
		for number := 0; number < count; number++ {
			walk := make([]byte, length)
			rest := number
			for i := length - 1; i >= 0; i-- {
				walk[i] = "LPR"[rest%3]
				rest /= 3
			}
			if plainTour(x, string(walk)) {
				return string(walk)
			}
		}
	}
	return ""
}
