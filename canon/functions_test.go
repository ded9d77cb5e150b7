package canon_test

import (
	"slices"
	"testing"

	"sackbut/api"
	"sackbut/canon"
)

// must returns a result and fails the test unless there is no error.
func must[T any](t *testing.T) func(T, api.Errno) T {
	t.Helper()
	return func(result T, e api.Errno) T {
		t.Helper()
		if e != api.OK {
			t.Fatal("error", e)
		}
		return result
	}
}

// rhythm returns the number of a rhythm with these beats.
func rhythm(beats ...int) int {
	number := 0
	for _, x := range beats {
		number |= 1 << x
	}
	return number
}

// P2.1

func TestTilesOfAllSmallRhythms(t *testing.T) {
	for n := 2; n <= 9; n++ {
		for a := 1; a < 1<<n; a += 2 {
			for b := 1; b < 1<<n; b += 2 {
				if ok, e := canon.Tiles(n, a, b); ok != plainTiles(n, a, b) || e != api.OK {
					t.Fatal(n, a, b, ok, e)
				}
			}
		}
	}
}

func TestTilesOfGreatRhythms(t *testing.T) {
	for x := range tilings {
		if ok, e := canon.Tiles(x.n, x.a, x.b); !ok || e != api.OK {
			t.Fatal(x, ok, e)
		}
		// A beat more and, if there is one, a beat less.
		more := x.b | (x.b+1)&^x.b
		if ok, e := canon.Tiles(x.n, x.a, more&(1<<x.n-1)); ok != (more >= 1<<x.n) || e != api.OK {
			t.Fatal(x, more, ok, e)
		}
		if less := (x.b-1)&(x.b-2) | 1; less != x.b {
			if ok, e := canon.Tiles(x.n, x.a, less); ok || e != api.OK {
				t.Fatal(x, less, ok, e)
			}
		}
	}
}

func TestTiles(t *testing.T) {
	for _, x := range []struct {
		n, a, b int
		want    bool
	}{
		{8, 3, 85, true},
		{8, 85, 3, true},
		{8, 3, 15, false},
		{8, 51, 5, true},
		{8, 3, 255, false}, // all beats come, but each twice
		{8, 7, rhythm(0, 3, 5), false},
		{8, 7, rhythm(0, 3, 6), false}, // 0 comes twice and would make 8 of 9
		{2, 1, 3, true},
		{2, 3, 1, true},
		{2, 1, 1, false},
		{2, 3, 3, false},
		{24, 1<<24 - 1, 1, true},
		{24, 1<<12 - 1, 1<<12 | 1, true},
		{24, 1<<12 - 1, 1<<11 | 1, false},
		{24, 1<<12 - 1, 1<<13 | 1, false},
	} {
		if ok, e := canon.Tiles(x.n, x.a, x.b); ok != x.want || e != api.OK {
			t.Error(x, ok, e)
		}
	}
}

// P2.2

func checkPartner(t *testing.T, n, a int, all []int) {
	t.Helper()
	want, wantE := 0, api.ErrNone
	if len(all) > 0 {
		want, wantE = slices.Min(all), api.OK
	}
	if b, e := canon.Partner(n, a); b != want || e != wantE {
		t.Fatal("Partner", n, a, b, e, "not", want, wantE)
	}
	if count, e := canon.Partners(n, a); count != len(all) || e != api.OK {
		t.Fatal("Partners", n, a, count, e, "not", len(all))
	}
}

func TestPartnersOfAllRhythms(t *testing.T) {
	for n := 2; n <= 16; n++ {
		pairs := plainTilings(n)
		for a := 1; a < 1<<n; a += 2 {
			checkPartner(t, n, a, plainPartners(pairs, a))
		}
	}
}

func TestPartnersOfGreatRhythms(t *testing.T) {
	for x := range tilings {
		b, e := canon.Partner(x.n, x.a)
		if b > x.b || !plainTiles(x.n, x.a, b) || e != api.OK {
			t.Fatal(x, b, e)
		}
		if count, e := canon.Partners(x.n, x.a); count < 1 || e != api.OK {
			t.Fatal(x, count, e)
		}
	}
}

// The beats 0, n/k, 2 n/k .. of a partner can each be any of k, but for beat 0.

func TestPartnersOfEqualSteps(t *testing.T) {
	for n := 2; n <= 24; n++ {
		for k := 1; k <= n; k++ {
			if n%k != 0 {
				continue
			}
			a, count := 0, 1
			for x := range k {
				a |= 1 << (x * n / k)
			}
			for range n/k - 1 {
				count *= k
			}
			if c, e := canon.Partners(n, a); c != count || e != api.OK {
				t.Error(n, k, c, e)
			}
			if b, e := canon.Partner(n, a); b != 1<<(n/k)-1 || e != api.OK {
				t.Error(n, k, b, e)
			}
			if b, e := canon.Partner(n, 1<<k-1); b != plainSteps(n, k) || e != api.OK {
				t.Error(n, k, b, e)
			}
			if c, e := canon.Partners(n, 1<<k-1); c != 1 || e != api.OK {
				t.Error(n, k, c, e)
			}
		}
	}
}

func plainSteps(n, step int) int {
	result := 0
	for x := 0; x < n; x += step {
		result |= 1 << x
	}
	return result
}

func TestPartner(t *testing.T) {
	for _, x := range []struct {
		n, a, b, count int
		e              api.Errno
	}{
		{8, 3, 85, 1, api.OK},
		{8, 51, 5, 2, api.OK},
		{12, 11, 0, 0, api.ErrNone},
		{12, 7, 585, 1, api.OK},
		{8, 7, 0, 0, api.ErrNone},
		{2, 1, 3, 1, api.OK},
		{24, 1, 1<<24 - 1, 1, api.OK},
		{24, 1<<24 - 1, 1, 1, api.OK},
		{24, 1<<12 | 1, 4095, 2048, api.OK},
		{24, 1<<16 | 1<<8 | 1, 255, 2187, api.OK},
		{24, 31, 0, 0, api.ErrNone},
		{23, 3, 0, 0, api.ErrNone},
	} {
		if b, e := canon.Partner(x.n, x.a); b != x.b || e != x.e {
			t.Error(x, b, e)
		}
		if c, e := canon.Partners(x.n, x.a); c != x.count || e != api.OK {
			t.Error(x, c, e)
		}
	}
}

// P2.3

func TestPeriodAndFold(t *testing.T) {
	for n, a := range samples {
		if d, e := canon.Period(n, a); d != plainPeriod(n, a) || e != api.OK {
			t.Fatal(n, a, d, e)
		}
		for d := -n - 1; d <= n+1; d++ {
			want, wantE := 0, api.ErrArg
			if d >= 2 && plainIsPeriod(n, a, d) {
				wantE = api.OK
				for _, x := range plainBeats(n, a) {
					want |= 1 << plainModulo(x, d)
				}
			}
			if f, e := canon.Fold(n, a, d); f != want || e != wantE {
				t.Fatal(n, a, d, f, e)
			}
		}
	}
}

func TestPeriod(t *testing.T) {
	for _, x := range []struct{ n, a, want int }{
		{8, 51, 4},
		{8, 3, 8},
		{8, 85, 2},
		{8, 255, 1},
		{2, 1, 2},
		{2, 3, 1},
		{9, rhythm(0, 2, 4, 6, 8), 9}, // moved by 2 it is another one, and 2 does not divide 9
		{24, plainSteps(24, 8), 8},
		{24, 1<<24 - 1, 1},
		{24, 1, 24},
	} {
		if d, e := canon.Period(x.n, x.a); d != x.want || e != api.OK {
			t.Error(x, d, e)
		}
	}
}

func TestFold(t *testing.T) {
	for _, x := range []struct {
		n, a, d, want int
		e             api.Errno
	}{
		{8, 51, 4, 3, api.OK},
		{8, 51, 8, 51, api.OK},
		{8, 51, 2, 0, api.ErrArg},
		{8, 255, 2, 3, api.OK},
		{8, 255, 1, 0, api.ErrArg}, // a period, but no circle
		{8, 255, 3, 0, api.ErrArg},
		{8, 255, 0, 0, api.ErrArg},
		{8, 255, -2, 0, api.ErrArg},
		{8, 255, 16, 0, api.ErrArg},
		{2, 1, 2, 1, api.OK},
		{24, plainSteps(24, 8), 8, 1, api.OK},
		{24, plainSteps(24, 8), 12, 0, api.ErrArg},
		{24, 1<<24 - 1, 24, 1<<24 - 1, api.OK},
	} {
		if f, e := canon.Fold(x.n, x.a, x.d); f != x.want || e != x.e {
			t.Error(x, f, e)
		}
	}
}

// P2.4

func TestRootsAndConditions(t *testing.T) {
	for n, a := range samples {
		if l, e := canon.Roots(n, a); !slices.Equal(l, plainRoots(n, a)) || e != api.OK {
			t.Fatal("Roots", n, a, l, e)
		}
		if ok, e := canon.First(n, a); ok != plainFirst(n, a) || e != api.OK {
			t.Fatal("First", n, a, ok, e)
		}
		if ok, e := canon.Second(n, a); ok != plainSecond(n, a) || e != api.OK {
			t.Fatal("Second", n, a, ok, e)
		}
	}
}

func TestRoots(t *testing.T) {
	for _, x := range []struct {
		n, a          int
		roots         []int
		first, second bool
	}{
		{8, 3, []int{2}, true, true},
		{8, 51, []int{2, 8}, true, true},
		{8, 85, []int{4, 8}, true, true},
		{12, 11, nil, false, true},
		{12, 7, []int{3}, true, true},
		{12, 4095, []int{2, 3, 4, 6, 12}, true, true},
		{12, 175, []int{3, 4}, true, false}, // 12 is no root
		{24, 17031, []int{2, 3}, true, false},
		{24, 159999, []int{2, 3}, false, false},
		{24, 11, nil, false, true},
		{24, 1, nil, true, true},
		{24, 1<<24 - 1, []int{2, 3, 4, 6, 8, 12, 24}, true, true},
		{2, 3, []int{2}, true, true},
		{2, 1, nil, true, true},
		{23, 1<<23 - 1, []int{23}, true, true},
		{9, 7, []int{3}, true, true},
		{8, 15, []int{2, 4}, true, true},
		{8, 5, []int{4}, true, true},
	} {
		if l, e := canon.Roots(x.n, x.a); !slices.Equal(l, x.roots) || e != api.OK {
			t.Error("Roots", x, l, e)
		}
		if ok, e := canon.First(x.n, x.a); ok != x.first || e != api.OK {
			t.Error("First", x, ok, e)
		}
		if ok, e := canon.Second(x.n, x.a); ok != x.second || e != api.OK {
			t.Error("Second", x, ok, e)
		}
	}
}

// P2.5

func TestBuildOfSamples(t *testing.T) {
	for n, a := range samples {
		want, wantE := 0, api.ErrNone
		if plainFirst(n, a) && plainSecond(n, a) {
			wantE = api.OK
			for k, coefficient := range plainBuild(n, a) {
				if coefficient < 0 || coefficient > 1 {
					t.Fatal(n, a, "no rhythm")
				}
				want |= coefficient << k
			}
		}
		if b, e := canon.Build(n, a); b != want || e != wantE {
			t.Fatal(n, a, b, e, "not", want, wantE)
		}
	}
}

func TestBuild(t *testing.T) {
	for _, x := range []struct {
		n, a, b int
		e       api.Errno
	}{
		{12, 7, 585, api.OK},
		{12, 11, 0, api.ErrNone},  // not the first condition
		{12, 175, 0, api.ErrNone}, // not the second one
		{24, 17031, 0, api.ErrNone},
		{24, 159999, 0, api.ErrNone},
		{8, 3, 85, api.OK},
		{8, 51, 5, api.OK},
		{24, 1, 1<<24 - 1, api.OK},
		{24, 1<<24 - 1, 1, api.OK},
		{2, 3, 1, api.OK},
		{6, rhythm(0, 1), rhythm(0, 2, 4), api.OK},
		{6, rhythm(0, 3), rhythm(0, 2, 4), api.OK}, // not the least partner, which is 0 1 2
		{6, rhythm(0, 1, 2), rhythm(0, 3), api.OK},
	} {
		if b, e := canon.Build(x.n, x.a); b != x.b || e != x.e {
			t.Error(x, b, e)
		}
	}
}

// P2.6

func TestEnter(t *testing.T) {
	for _, x := range []struct {
		n, a, b, beat, y int
		e                api.Errno
	}{
		{8, 3, 85, 0, 0, api.OK},
		{8, 3, 85, 1, 0, api.OK},
		{8, 3, 85, 7, 6, api.OK},
		{8, 85, 3, 7, 1, api.OK}, // it is b that enters
		{8, 85, 3, 6, 0, api.OK},
		{8, 3, 1<<1 | 1, 0, 0, api.ErrNone},
		{8, 3, 255, 0, 0, api.ErrNone},
		{8, 3, 85, -1, 0, api.ErrArg},
		{8, 3, 85, 8, 0, api.ErrArg},
		{8, 3, 3, 8, 0, api.ErrArg}, // before ErrNone
		{8, 3, 3, -1, 0, api.ErrArg},
		{4, rhythm(0, 3), rhythm(0, 2), 1, 2, api.OK}, // 3 and 2 make 5
		{4, rhythm(0, 3), rhythm(0, 2), 3, 0, api.OK},
		{24, 1, 1<<24 - 1, 23, 23, api.OK},
		{24, 1<<24 - 1, 1, 23, 0, api.OK},
		{24, 1, 1<<24 - 1, 24, 0, api.ErrArg},
	} {
		if y, e := canon.Enter(x.n, x.a, x.b, x.beat); y != x.y || e != x.e {
			t.Error(x, y, e)
		}
	}
}

func TestEnterOfAllSmallRhythms(t *testing.T) {
	for n := 2; n <= 7; n++ {
		for a := 1; a < 1<<n; a += 2 {
			for b := 1; b < 1<<n; b += 2 {
				if plainTiles(n, a, b) {
					continue // TestEntries tests these
				}
				for beat := range n {
					if y, e := canon.Enter(n, a, b, beat); y != 0 || e != api.ErrNone {
						t.Fatal(n, a, b, beat, y, e)
					}
				}
			}
		}
	}
}

// P2.7

func TestListAndPlain(t *testing.T) {
	for n := 2; n <= 16; n++ {
		bySize := make([][]int, n+1)
		var plain [][2]int
		last := 0
		for _, pair := range plainTilings(n) {
			if pair[0] != last {
				size := len(plainBeats(n, pair[0]))
				bySize[size] = append(bySize[size], pair[0])
			}
			last = pair[0]
			if plainPeriod(n, pair[0]) == n && plainPeriod(n, pair[1]) == n {
				plain = append(plain, pair)
			}
		}
		for size := 1; size <= n; size++ {
			if l, e := canon.List(n, size); !slices.Equal(l, bySize[size]) || e != api.OK {
				t.Fatal(n, size, l, e)
			}
		}
		if l, e := canon.Plain(n); !slices.Equal(l, plain) || e != api.OK {
			t.Fatal(n, l, e)
		}
	}
}

func TestList(t *testing.T) {
	for _, x := range []struct {
		n, size int
		want    []int
	}{
		{2, 1, []int{1}},
		{2, 2, []int{3}},
		{4, 2, []int{3, 5, 9}},
		{4, 3, nil},
		{6, 3, []int{rhythm(0, 1, 2), rhythm(0, 2, 1), rhythm(0, 1, 5), rhythm(0, 2, 4), rhythm(0, 4, 5)}},
		{16, 16, []int{65535}},
		{16, 1, []int{1}},
		{13, 12, nil},
	} {
		want := slices.Clone(x.want)
		slices.Sort(want)
		if l, e := canon.List(x.n, x.size); !slices.Equal(l, slices.Compact(want)) || e != api.OK {
			t.Error(x, l, e)
		}
	}
}
