package wheels_test

import (
	"math"
	"slices"
	"testing"

	"sackbut/api"
	"sackbut/wheels"
)

// must returns a result and fails the test unless there is no error.
func must[T any](t *testing.T) func(T, api.Errno) T {
	t.Helper()
	return func(result T, e api.Errno) T {
		t.Helper()
		if e != api.OK {
			t.Fatal("error", e)
		}
		return result
	}
}

// P8.1

func TestPrime(t *testing.T) {
	for n := range circles {
		least := 0
		for q := 2*n + 1; least == 0; q++ {
			if plainIsPrime(q) && q%n == 1 {
				least = q
			}
		}
		if primeOf[n] != least {
			t.Fatal("the table is wrong", n, least)
		}
		if q, e := wheels.Prime(n); q != least || e != api.OK {
			t.Error(n, q, e)
		}
	}
}

func TestRoot(t *testing.T) {
	for n := range circles {
		least := 2
		for plainOrder(least, primeOf[n]) != n {
			least++
		}
		if rootOf[n] != least {
			t.Fatal("the table is wrong", n, least)
		}
		if w, e := wheels.Root(n); w != least || e != api.OK {
			t.Error(n, w, e)
		}
	}
	if w, e := wheels.Root(2); w != primeOf[2]-1 || e != api.OK {
		t.Error(w, e)
	}
}

// P8.2

func checkSpectrum(t *testing.T, n int, f []int) {
	t.Helper()
	spectrum, e := wheels.Spectrum(n, f)
	if !slices.Equal(spectrum, plainSpectrum(n, f)) || e != api.OK {
		t.Fatal("Spectrum", n, f, spectrum, e)
	}
	back, e := wheels.Back(n, f)
	if !slices.Equal(plainSpectrum(n, back), f) || e != api.OK {
		t.Fatal("Back", n, f, back, e)
	}
}

func TestSpectrumAndBack(t *testing.T) {
	for n := range circles {
		for f := range manyWheels(n, 600) {
			checkSpectrum(t, n, f)
		}
	}
	for _, f := range allWheels(4) {
		checkSpectrum(t, 4, f)
	}
	for n := range circles {
		for f := range someWheels(n, 60) {
			if back, e := wheels.Back(n, f); !slices.Equal(back, plainBack(n, f)) || e != api.OK {
				t.Fatal("Back", n, f, back, e)
			}
		}
	}
}

func TestSpectrumOfExamples(t *testing.T) {
	for _, x := range []struct {
		n           int
		f, spectrum []int
	}{
		{4, []int{1, 0, 0, 0}, []int{1, 1, 1, 1}},
		{4, []int{0, 1, 0, 0}, []int{1, 5, 12, 8}},
		{4, []int{1, 1, 1, 1}, []int{4, 0, 0, 0}},
		{4, []int{12, 12, 12, 12}, []int{9, 0, 0, 0}},
		{4, []int{0, 0, 0, 0}, []int{0, 0, 0, 0}},
		{2, []int{1, 2}, []int{3, 4}},
		{2, []int{4, 4}, []int{3, 0}},
		{3, []int{0, 0, 1}, []int{1, 4, 2}},
		{3, []int{1, 2, 3}, []int{6, 3, 1}},
	} {
		if l, e := wheels.Spectrum(x.n, x.f); !slices.Equal(l, x.spectrum) || e != api.OK {
			t.Error("Spectrum", x, l, e)
		}
		if l, e := wheels.Back(x.n, x.spectrum); !slices.Equal(l, x.f) || e != api.OK {
			t.Error("Back", x, l, e)
		}
	}
}

// P8.3

func checkTimes(t *testing.T, n int, f, g []int) {
	t.Helper()
	if l, e := wheels.Times(n, f, g); !slices.Equal(l, plainTimes(n, f, g)) || e != api.OK {
		t.Fatal(n, f, g, l, e)
	}
}

func TestTimes(t *testing.T) {
	for _, n := range []int{2, 3} {
		for _, f := range allWheels(n) {
			for _, g := range allWheels(n) {
				checkTimes(t, n, f, g)
			}
		}
	}
	for n := range circles {
		for f := range someWheels(n, 60) {
			for g := range someWheels(n, 30) {
				checkTimes(t, n, f, g)
			}
		}
	}
	for _, x := range []struct {
		n          int
		f, g, want []int
	}{
		{4, []int{1, 2, 0, 0}, []int{0, 3, 0, 0}, []int{0, 3, 6, 0}},
		{4, []int{1, 2, 0, 0}, []int{0, 0, 0, 12}, []int{11, 0, 0, 12}},
		{2, []int{1, 2}, []int{3, 4}, []int{1, 0}},
		{4, []int{1, 1, 0, 0}, []int{1, 0, 1, 0}, []int{1, 1, 1, 1}},
	} {
		if l, e := wheels.Times(x.n, x.f, x.g); !slices.Equal(l, x.want) || e != api.OK {
			t.Error(x, l, e)
		}
	}
}

// checkDivide returns whether the product with g can be undone.
func checkDivide(t *testing.T, n int, f, g []int) bool {
	t.Helper()
	want, wantE := plainDivide(n, f, g), api.OK
	if want == nil {
		wantE = api.ErrState
	}
	if l, e := wheels.Divide(n, f, g); !slices.Equal(l, want) || e != wantE {
		t.Fatal(n, f, g, l, e)
	}
	if (want == nil) != slices.Contains(plainSpectrum(n, g), 0) {
		t.Fatal("the reference is wrong", n, g)
	}
	return want != nil
}

func TestDivide(t *testing.T) {
	for _, n := range []int{2, 3} {
		for _, f := range allWheels(n) {
			for _, g := range allWheels(n) {
				checkDivide(t, n, f, g)
			}
		}
	}
	for n := range circles {
		undone, others := 0, 0
		for g := range someWheels(n, 60) {
			for i := range 6 {
				if checkDivide(t, n, someWheel(n, i), g) {
					undone++
				} else {
					others++
				}
			}
		}
		if undone < 100 || others < 100 {
			t.Error("too few wheels of one sort", n, undone, others)
		}
	}
}

func TestDivideOfExamples(t *testing.T) {
	for _, x := range []struct {
		n          int
		f, g, want []int
		e          api.Errno
	}{
		{2, []int{1, 0}, []int{1, 2}, []int{3, 4}, api.OK},
		{2, []int{3, 1}, []int{2, 0}, []int{4, 3}, api.OK},
		{2, []int{0, 0}, []int{1, 2}, []int{0, 0}, api.OK},
		{2, []int{1, 0}, []int{2, 2}, nil, api.ErrState},
		{2, []int{1, 0}, []int{1, 4}, nil, api.ErrState},
		{2, []int{4, 4}, []int{2, 2}, nil, api.ErrState}, // 2 0 would do, but 3 4, too
		{2, []int{0, 0}, []int{0, 0}, nil, api.ErrState},
		{4, []int{1, 0, 0, 0}, []int{0, 1, 0, 0}, []int{0, 0, 0, 1}, api.OK},
		{4, []int{0, 3, 6, 0}, []int{0, 3, 0, 0}, []int{1, 2, 0, 0}, api.OK},
		{4, []int{1, 1, 1, 1}, []int{1, 0, 1, 0}, nil, api.ErrState},
	} {
		if l, e := wheels.Divide(x.n, x.f, x.g); !slices.Equal(l, x.want) || e != x.e {
			t.Error(x, l, e)
		}
	}
}

// The divisor has a 0 at just one place of its spectrum, wherever it is.
func TestDivideByOneZero(t *testing.T) {
	for n := range circles {
		for k := range n {
			spectrum := make([]int, n)
			for i := range spectrum {
				spectrum[i] = 1 + scattered(n*k+i, primeOf[n]-1)
			}
			f := plainBack(n, spectrum)
			spectrum[k] = 0
			g := plainBack(n, spectrum)
			if l, e := wheels.Divide(n, f, g); len(l) != 0 || e != api.ErrState {
				t.Error(n, k, l, e)
			}
			if _, e := wheels.Divide(n, g, f); e != api.OK {
				t.Error(n, k, e)
			}
			if l, e := wheels.Divide(n, g, g); len(l) != 0 || e != api.ErrState {
				t.Error(n, k, l, e)
			}
		}
	}
}

// P8.4

func TestPower(t *testing.T) {
	for n := range circles {
		for f := range manyWheels(n, 600) {
			if l, e := wheels.Power(n, f); !slices.Equal(l, plainPower(n, f)) || e != api.OK {
				t.Fatal(n, f, l, e)
			}
		}
	}
	for _, x := range []struct {
		n       int
		f, want []int
	}{
		{4, []int{0, 1, 0, 0}, []int{1, 1, 1, 1}},
		{4, []int{1, 1, 0, 0}, []int{4, 2, 0, 2}},
		{4, []int{3, 4, 0, 0}, []int{10, 12, 1, 12}},
		{2, []int{3, 1}, []int{1, 4}},
		{7, []int{1, 1, 0, 1, 0, 0, 0}, []int{9, 2, 2, 2, 2, 2, 2}},
	} {
		if l, e := wheels.Power(x.n, x.f); !slices.Equal(l, x.want) || e != api.OK {
			t.Error(x, l, e)
		}
	}
}

func TestChord(t *testing.T) {
	for n := range circles {
		for chord := range 1 << n {
			if l, e := wheels.Chord(n, chord); !slices.Equal(l, plainChord(n, chord)) || e != api.OK {
				t.Fatal(n, chord, l, e)
			}
		}
	}
	if l, e := wheels.Chord(7, 11); !slices.Equal(l, []int{1, 1, 0, 1, 0, 0, 0}) || e != api.OK {
		t.Error(l, e)
	}
}

// P8.5

func TestSilent(t *testing.T) {
	for n := range circles {
		for chord := range someChords(n, 2000) {
			if set, e := wheels.Silent(n, chord); set != plainSilent(n, chord) || e != api.OK {
				t.Fatal(n, chord, set, e)
			}
		}
		// Without tones all is silent, with all tones all but 0.
		for chord, want := range map[int]int{0: 1<<n - 1, 1<<n - 1: 1<<n - 2, 1: 0, 1 << (n - 1): 0} {
			if set, e := wheels.Silent(n, chord); set != want || e != api.OK {
				t.Error(n, chord, set, e)
			}
		}
	}
	for _, x := range [][3]int{{4, 5, 10}, {4, 3, 4}, {8, 0b10001, 0b10101010}, {12, 0b1001001, 0}, {12, 0b001001001001, 0b111011101110}} {
		if set, e := wheels.Silent(x[0], x[1]); set != x[2] || e != api.OK {
			t.Error(x, set, e)
		}
	}
}

func TestFlat(t *testing.T) {
	for n := range circles {
		flat, others := 0, 0
		for chord := range someChords(n, 2000) {
			want := plainFlat(n, chord)
			if ok, e := wheels.Flat(n, chord); ok != want || e != api.OK {
				t.Fatal(n, chord, ok, e)
			}
			if want {
				flat++
			} else {
				others++
			}
		}
		if flat == 0 && n <= 10 || others == 0 && n > 3 {
			t.Error("too few chords of one sort", n, flat, others)
		}
	}
	for _, x := range []struct {
		n, chord int
		want     bool
	}{
		{7, 11, true},
		{7, 7, false},
		{7, 0, true},
		{7, 127, true},
		{2, 1, true},
		{2, 3, true},
		{3, 3, true},
		{4, 3, false},
		{4, 5, false},
		{4, 7, true},
		{11, 1<<1 | 1<<3 | 1<<4 | 1<<5 | 1<<9, true},
		{13, 1<<0 | 1<<1 | 1<<3 | 1<<9, true},
		{15, 1<<0 | 1<<1 | 1<<2 | 1<<4 | 1<<5 | 1<<8 | 1<<10, true},
		{13, 1<<0 | 1<<1 | 1<<3 | 1<<8, false},
		{16, 1 << 15, true},
		{16, 1<<16 - 2, true},
		{16, 1 | 1<<15, false},
	} {
		if ok, e := wheels.Flat(x.n, x.chord); ok != x.want || e != api.OK {
			t.Error(x, ok, e)
		}
	}
}

// P8.6

func checkAlike(t *testing.T, n, a, b int) {
	t.Helper()
	want := slices.Equal(plainPower(n, plainChord(n, a)), plainPower(n, plainChord(n, b)))
	if ok, e := wheels.Alike(n, a, b); ok != want || e != api.OK {
		t.Fatal(n, a, b, ok, e)
	}
}

func TestAlike(t *testing.T) {
	for n := range circles {
		if n <= 5 {
			for a := range 1 << n {
				for b := range 1 << n {
					checkAlike(t, n, a, b)
				}
			}
		}
		for i := range 1000 {
			checkAlike(t, n, scattered(i, 1<<n), scattered(i+1000, 1<<n))
		}
	}
	for _, x := range []struct {
		n, a, b int
		want    bool
	}{
		{8, 27, 39, true},
		{8, 27, 43, false},
		{12, 145, 137, true},
		{12, 145, 273, false},
		{12, 0, 1, false},
		{12, 0, 0, true},
		{12, 1, 1 << 11, true},
		{12, 0b10011, 0b1001001, false},
		{12, 1<<0 | 1<<1 | 1<<4 | 1<<6, 1<<0 | 1<<1 | 1<<3 | 1<<7, true},
		{2, 1, 2, true},
		{2, 1, 3, false},
		{16, 1<<16 - 1, 1<<16 - 1, true},
		{16, 1<<16 - 1, 0, false},
	} {
		if ok, e := wheels.Alike(x.n, x.a, x.b); ok != x.want || e != api.OK {
			t.Error(x, ok, e)
		}
	}
}

// P8.7

func TestMove(t *testing.T) {
	for n := range circles {
		for f := range someWheels(n, 120) {
			for k := -2*n - 1; k <= 2*n+1; k++ {
				if l, e := wheels.Move(n, f, k); !slices.Equal(l, plainMove(n, f, k+3*n)) || e != api.OK {
					t.Fatal(n, f, k, l, e)
				}
			}
		}
	}
	if l, e := wheels.Move(4, []int{1, 2, 3, 4}, 1); !slices.Equal(l, []int{4, 1, 2, 3}) || e != api.OK {
		t.Error(l, e)
	}
}

func TestMoveByAnyNumber(t *testing.T) {
	for n := range circles {
		f := make([]int, n)
		f[0] = 1
		for _, k := range odd {
			l, e := wheels.Move(n, f, k)
			if e != api.OK || len(l) != n {
				t.Fatal(n, k, l, e)
			}
			// It stands where the steps from k to it are a multiple of n.
			at := slices.Index(l, 1)
			rest := k % n
			if at < 0 || at != rest && at != rest+n {
				t.Error(n, k, l)
			}
		}
	}
	// Modulo 12 the least int is 4 and the greatest one 7, of 32 bits as of 64.
	for k, at := range map[int]int{math.MinInt: 4, math.MaxInt: 7, math.MinInt + 1: 5, math.MaxInt - 1: 6} {
		want := make([]int, 12)
		want[at] = 36
		if l, e := wheels.Move(12, []int{36, 0, 0, 0, 0, 0, 0, 0, 0, 0, 0, 0}, k); !slices.Equal(l, want) || e != api.OK {
			t.Error(k, l, e)
		}
	}
}

func TestTurn(t *testing.T) {
	for n := range circles {
		for f := range manyWheels(n, 300) {
			if l, e := wheels.Turn(n, f); !slices.Equal(l, plainTurn(n, f)) || e != api.OK {
				t.Fatal(n, f, l, e)
			}
		}
	}
	if l, e := wheels.Turn(4, []int{1, 2, 3, 4}); !slices.Equal(l, []int{1, 4, 3, 2}) || e != api.OK {
		t.Error(l, e)
	}
}

// P8.8

// checkSolve returns whether there is a solution.
func checkSolve(t *testing.T, n, target int, list []int) bool {
	t.Helper()
	want, found := plainSolve(n, target, list)
	wantE := api.OK
	if !found {
		wantE = api.ErrNone
	}
	if l, e := wheels.Solve(n, target, list); !slices.Equal(l, want) || e != wantE {
		t.Fatal(n, target, list, l, e, "not", want)
	}
	return found
}

func TestSolveOfAllShortLists(t *testing.T) {
	for _, x := range [][2]int{{2, 5}, {3, 3}} {
		n, longest := x[0], x[1]
		lists := [][]int{nil}
		for at := 0; at < len(lists); at++ {
			for target := range 1 << n {
				checkSolve(t, n, target, lists[at])
			}
			if len(lists[at]) == longest {
				continue
			}
			for chord := range 1 << n {
				lists = append(lists, slices.Concat(lists[at], []int{chord}))
			}
		}
	}
}

// someList returns a target and a list of chords: those of some list are parts of the target, which may also be cut otherwise or be no tone at all.
func someList(n, number int) (target int, list []int) {
	target = scattered(number, 1<<n)
	if number%8 == 0 {
		target = 1<<n - 1
	}
	length := scattered(number+1, 11)
	parts := 1 + scattered(number+2, 4)
	cut := make([]int, parts)
	for _, tone := range plainTones(n, target) {
		cut[scattered(100*number+tone, parts)] |= 1 << tone
	}
	for i := range length {
		at := 100*number + 17*i
		switch scattered(at, 6) {
		case 0:
			list = append(list, scattered(at+1, 1<<n))
		case 1, 2:
			list = append(list, target&scattered(at+1, 1<<n))
		case 3:
			list = append(list, target&scattered(at+1, 1<<n)&scattered(at+2, 1<<n))
		default:
			list = append(list, cut[scattered(at+1, parts)])
		}
	}
	return target, list
}

func TestSolve(t *testing.T) {
	for n := range circles {
		found, others := 0, 0
		for number := range 200 {
			target, list := someList(n, number)
			if checkSolve(t, n, target, list) {
				found++
			} else {
				others++
			}
		}
		if found < 30 || others < 30 {
			t.Error("too few lists of one sort", n, found, others)
		}
	}
}

func TestSolveOfExamples(t *testing.T) {
	for _, x := range []struct {
		n, target int
		list      []int
		want      []int
		e         api.Errno
	}{
		{4, 15, []int{5, 3, 10, 12}, []int{0, 2}, api.OK},
		{4, 15, []int{3, 5, 10, 12}, []int{0, 3}, api.OK},
		{4, 15, []int{3, 6, 8, 15}, []int{3}, api.OK},
		{4, 15, []int{15, 3, 12}, []int{0}, api.OK},
		{4, 15, []int{1, 2, 4, 8, 15}, []int{0, 1, 2, 3}, api.OK},
		{4, 7, []int{15, 8, 3, 6}, nil, api.ErrNone},
		{4, 7, []int{3, 6}, nil, api.ErrNone}, // together they have all tones, one of them twice
		{4, 7, nil, nil, api.ErrNone},
		{4, 7, []int{0, 0}, nil, api.ErrNone},
		{4, 3, []int{3, 3}, []int{0}, api.OK},
		{4, 3, []int{1, 1, 2, 2}, []int{0, 2}, api.OK},
		{4, 5, []int{2, 5, 2}, []int{1}, api.OK},
		// No tone: the slice without an index is the first one.
		{4, 0, nil, nil, api.OK},
		{4, 0, []int{}, nil, api.OK},
		{4, 0, []int{0, 1}, nil, api.OK},
		{4, 0, []int{3}, nil, api.OK},
		// A chord without a tone comes along where an index must follow, and only there.
		{4, 5, []int{0, 5}, []int{0, 1}, api.OK},
		{4, 5, []int{5, 0}, []int{0}, api.OK},
		{4, 5, []int{0, 0, 5, 0}, []int{0, 1, 2}, api.OK},
		{4, 5, []int{1, 0, 4, 0}, []int{0, 1, 2}, api.OK},
		{4, 5, []int{1, 5, 0}, []int{1}, api.OK},
		// Modulo 5 and modulo 7 these would sum to the target.
		{2, 2, []int{3, 1, 1, 1, 1}, nil, api.ErrNone},
		{2, 2, []int{2, 2, 2, 2, 2, 2}, []int{0}, api.OK},
		{2, 0, []int{1, 1, 1, 1, 1}, nil, api.OK},
		{3, 2, []int{3, 1, 1, 1, 1, 1, 1}, nil, api.ErrNone},
		// Ten chords that are all needed, on the greatest circle.
		{16, 1<<16 - 1, []int{1, 2, 4, 8, 16, 32, 64, 128, 256, 1<<16 - 512}, []int{0, 1, 2, 3, 4, 5, 6, 7, 8, 9}, api.OK},
		{16, 1<<16 - 1, []int{1, 2, 4, 8, 16, 32, 64, 128, 256, 1<<16 - 1024}, nil, api.ErrNone},
		{16, 1 << 15, []int{1, 2, 4, 8, 16, 32, 64, 128, 256, 1 << 15}, []int{9}, api.OK},
	} {
		if l, e := wheels.Solve(x.n, x.target, x.list); !slices.Equal(l, x.want) || e != x.e {
			t.Error(x, l, e)
		}
	}
}
