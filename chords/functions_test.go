package chords_test

import (
	"math"
	"slices"
	"testing"

	"sackbut/api"
	"sackbut/chords"
)

// must returns a result and fails the test unless there is no error.
func must[T any](t *testing.T) func(T, api.Errno) T {
	t.Helper()
	return func(result T, e api.Errno) T {
		t.Helper()
		if e != api.OK {
			t.Fatal("error", e)
		}
		return result
	}
}

// P1.1

func TestMove(t *testing.T) {
	for n, chord := range samples {
		for k := -2 * n; k <= 2*n; k++ {
			if c, e := chords.Move(n, chord, k); c != plainMap(n, chord, 1, k) || e != api.OK {
				t.Fatal(n, chord, k, c, e)
			}
		}
	}
}

func TestMoveByAnyNumber(t *testing.T) {
	// Modulo 12 the least int is 4 and the greatest one 7, of 32 bits as of 64.
	for _, x := range []struct{ n, chord, k, want int }{
		{12, 1, math.MaxInt, 1 << 7},
		{12, 1, math.MinInt, 1 << 4},
		{12, 1, math.MaxInt - 1, 1 << 6},
		{12, 1, math.MinInt + 1, 1 << 5},
		{16, 1 << 15, math.MaxInt, 1 << 14},
		{16, 1<<15 | 1, math.MinInt, 1<<15 | 1},
		{2, 1, math.MaxInt, 2},
		{2, 1, math.MinInt, 1},
		{12, 145, -1, 2120},
		{12, 145, 12, 145},
	} {
		if c, e := chords.Move(x.n, x.chord, x.k); c != x.want || e != api.OK {
			t.Error(x, c, e)
		}
	}
}

func TestTurn(t *testing.T) {
	for n, chord := range samples {
		if c, e := chords.Turn(n, chord); c != plainMap(n, chord, -1, 0) || e != api.OK {
			t.Fatal(n, chord, c, e)
		}
	}
	if c, e := chords.Turn(12, 145); c != 289 || e != api.OK {
		t.Error(c, e)
	}
}

func TestTimes(t *testing.T) {
	for n, chord := range samples {
		for m := -1; m <= n+1; m++ {
			want, wantE := 0, api.ErrArg
			if m >= 1 && m < n && plainCoprime(m, n) {
				want, wantE = plainMap(n, chord, m, 0), api.OK
			}
			if c, e := chords.Times(n, chord, m); c != want || e != wantE {
				t.Fatal(n, chord, m, c, e)
			}
		}
	}
	if c, e := chords.Times(12, 145, 5); c != 2305 || e != api.OK {
		t.Error(c, e)
	}
}

// P1.2

func TestVector(t *testing.T) {
	for n, chord := range samples {
		if l, e := chords.Vector(n, chord); !slices.Equal(l, plainVector(n, chord)) || e != api.OK {
			t.Fatal(n, chord, l, e)
		}
	}
	for _, x := range []struct {
		n, chord int
		want     []int
	}{
		{12, 145, []int{0, 0, 1, 1, 1, 0}},
		{12, 273, []int{0, 0, 0, 3, 0, 0}},
		{12, 1<<0 | 1<<11, []int{1, 0, 0, 0, 0, 0}},
		{12, 1<<3 | 1<<9, []int{0, 0, 0, 0, 0, 1}},
		{12, 0, []int{0, 0, 0, 0, 0, 0}},
		{2, 3, []int{1}},
		{3, 7, []int{3}},
		{7, 1<<7 - 1, []int{7, 7, 7}},
		{8, 27, []int{2, 1, 2, 1}},
		{8, 39, []int{2, 1, 2, 1}},
		{16, 1<<16 - 1, []int{16, 16, 16, 16, 16, 16, 16, 8}},
	} {
		if l, e := chords.Vector(x.n, x.chord); !slices.Equal(l, x.want) || e != api.OK {
			t.Error(x, l, e)
		}
	}
}

// P1.3

func TestPrimeAndClass(t *testing.T) {
	for n, chord := range samples {
		want := plainImages(n, chord)
		if p, e := chords.Prime(n, chord); p != want[0] || e != api.OK {
			t.Fatal(n, chord, p, e)
		}
		if l, e := chords.Class(n, chord); !slices.Equal(l, want) || e != api.OK {
			t.Fatal(n, chord, l, e)
		}
	}
	if p, e := chords.Prime(12, 145); p != 137 || e != api.OK {
		t.Error(p, e)
	}
	if l, e := chords.Class(12, 273); !slices.Equal(l, []int{273, 546, 1092, 2184}) || e != api.OK {
		t.Error(l, e)
	}
	if l, e := chords.Class(9, 0); !slices.Equal(l, []int{0}) || e != api.OK {
		t.Error(l, e)
	}
}

// P1.4

// plainWay tries the ways in the order in which Way prefers them.
func plainWay(n, a, b int) (int, bool, api.Errno) {
	for _, m := range []int{1, -1} {
		for k := 0; k < n; k++ {
			if plainMap(n, a, m, k) == b {
				return k, m == -1, api.OK
			}
		}
	}
	return 0, false, api.ErrNone
}

func checkWay(t *testing.T, n, a, b int) {
	t.Helper()
	wantK, wantTurned, wantE := plainWay(n, a, b)
	if k, turned, e := chords.Way(n, a, b); k != wantK || turned != wantTurned || e != wantE {
		t.Fatal(n, a, b, k, turned, e)
	}
}

func TestWayOfAllSmallChords(t *testing.T) {
	for n := 2; n <= 6; n++ {
		for a := range 1 << n {
			for b := range 1 << n {
				checkWay(t, n, a, b)
			}
		}
	}
}

func TestWayOfSamples(t *testing.T) {
	for n, a := range samples {
		for k := 0; k < n; k += 3 {
			checkWay(t, n, a, plainMap(n, a, 1, k))
			checkWay(t, n, a, plainMap(n, a, -1, k))
		}
		checkWay(t, n, a, 1<<n-1-a)
	}
}

func TestWay(t *testing.T) {
	for _, x := range []struct {
		n, a, b, k int
		turned     bool
		e          api.Errno
	}{
		{12, 145, 137, 7, true, api.OK},
		{12, 145, 145, 0, false, api.OK},
		{12, 145, 290, 1, false, api.OK},
		{12, 145, 289, 0, true, api.OK},
		{12, 145, 146, 0, false, api.ErrNone},
		{12, 145, 273, 0, false, api.ErrNone},
		{12, 273, 546, 1, false, api.OK}, // turning would do it, too, with the same move
		{8, 27, 39, 0, false, api.ErrNone},
		{16, 0, 0, 0, false, api.OK},
		{16, 0, 1, 0, false, api.ErrNone},
	} {
		if k, turned, e := chords.Way(x.n, x.a, x.b); k != x.k || turned != x.turned || e != x.e {
			t.Error(x, k, turned, e)
		}
	}
}

// P1.5

func TestPrimes(t *testing.T) {
	for n := 2; n <= 10; n++ {
		for size := range n + 1 {
			if l, e := chords.Primes(n, size); !slices.Equal(l, plainPrimes(n, size)) || e != api.OK {
				t.Fatal(n, size, l, e)
			}
		}
	}
	counts := []int{1, 1, 6, 12, 29, 38, 50, 38, 29, 12, 6, 1, 1}
	for size, want := range counts {
		if l, e := chords.Primes(12, size); len(l) != want || e != api.OK {
			t.Error(size, len(l), e)
		}
	}
}

func TestTwins(t *testing.T) {
	for n := 2; n <= 12; n++ {
		if l, e := chords.Twins(n); !slices.Equal(l, plainTwins(n)) || e != api.OK {
			t.Error(n, l, e)
		}
	}
	if l, e := chords.Twins(8); !slices.Equal(l, [][2]int{{27, 39}}) || e != api.OK {
		t.Error(l, e)
	}
	if l, e := chords.Twins(12); len(l) != 23 || e != api.OK {
		t.Error(len(l), e)
	}
}

// P1.6

func plainCommon(n, a, b int) []int {
	counts := make([]int, n)
	for k := range counts {
		for _, x := range plainTones(n, b) {
			if a&(1<<plainModulo(x+k, n)) != 0 {
				counts[k]++
			}
		}
	}
	return counts
}

func TestCommon(t *testing.T) {
	for n, a := range samples {
		for _, b := range []int{0, 1, 1<<n - 1, a, 1<<n - 1 - a, (a*7 + 5) % (1 << n)} {
			if l, e := chords.Common(n, a, b); !slices.Equal(l, plainCommon(n, a, b)) || e != api.OK {
				t.Fatal(n, a, b, l, e)
			}
		}
	}
	for _, x := range []struct {
		n, a, b int
		want    []int
	}{
		{4, 3, 3, []int{2, 1, 0, 1}},
		{4, 1, 2, []int{0, 0, 0, 1}}, // it is b that moves
		{4, 2, 1, []int{0, 1, 0, 0}},
		{2, 3, 1, []int{1, 1}},
		{5, 0, 31, []int{0, 0, 0, 0, 0}},
	} {
		if l, e := chords.Common(x.n, x.a, x.b); !slices.Equal(l, x.want) || e != api.OK {
			t.Error(x, l, e)
		}
	}
}

// P1.7

func TestStill(t *testing.T) {
	for n, chord := range samples {
		wantMoves, wantTurns := 0, 0
		for k := 0; k < n; k++ {
			if plainMap(n, chord, 1, k) == chord {
				wantMoves++
			}
			if plainMap(n, chord, -1, k) == chord {
				wantTurns++
			}
		}
		if moves, turns, e := chords.Still(n, chord); moves != wantMoves || turns != wantTurns || e != api.OK {
			t.Fatal(n, chord, moves, turns, e)
		}
	}
	for _, x := range [][4]int{{12, 145, 1, 0}, {12, 273, 3, 3}, {12, 0, 12, 12}, {16, 65535, 16, 16}, {12, 9, 1, 1}, {12, 715, 2, 0}, {2, 1, 1, 1}} {
		if moves, turns, e := chords.Still(x[0], x[1]); moves != x[2] || turns != x[3] || e != api.OK {
			t.Error(x, moves, turns, e)
		}
	}
}

// P1.8

func TestDeep(t *testing.T) {
	for n, chord := range samples {
		if ok, e := chords.Deep(n, chord); ok != plainDeep(plainVector(n, chord)) || e != api.OK {
			t.Fatal(n, chord, ok, e)
		}
	}
	for _, x := range []struct {
		n, chord int
		want     bool
	}{
		{12, 2741, true}, // 2 5 4 3 6 1
		{12, 145, false}, // 0 0 1 1 1 0
		{12, 0, true},    // 0s alone
		{12, 1, true},
		{12, 7, true}, // 2 1 0 0 0 0: 0s do not count
		{12, 273, true},
		{8, 27, false}, // 2 1 2 1
		{2, 3, true},
	} {
		if ok, e := chords.Deep(x.n, x.chord); ok != x.want || e != api.OK {
			t.Error(x, ok, e)
		}
	}
}
