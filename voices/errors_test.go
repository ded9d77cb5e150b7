package voices_test

import (
	"math"
	"slices"
	"testing"

	"sackbut/api"
	"sackbut/voices"
)

// expect says which error a call had to give, and that an error comes with zero values only.
func expect(t *testing.T, name string, want, e api.Errno, zero bool, arguments ...any) {
	t.Helper()
	if e != want {
		t.Fatal(name, arguments, "error", e, "not", want)
	}
	if e != api.OK && !zero {
		t.Fatal(name, arguments, "a result besides the error", e)
	}
}

// argument returns the error of a call whose arguments are right, or not.
func argument(right bool) api.Errno {
	if right {
		return api.OK
	}
	return api.ErrArg
}

// places returns the leading of k voices that leads each one to its own place.
func places(k int) []int {
	var list []int
	for place := range k {
		list = append(list, place)
	}
	return list
}

// checkPair calls all functions of two voicings.
func checkPair(t *testing.T, n int, a, b []int) {
	t.Helper()
	want := argument(plainIsVoicing(n, a) && plainIsVoicing(n, b) && len(a) == len(b))
	cost, e := voices.Cost(n, a, b)
	expect(t, "Cost", want, e, cost == 0, n, a, b)
	list, e := voices.Lead(n, a, b)
	expect(t, "Lead", want, e, len(list) == 0, n, a, b)
	for _, lead := range [][]int{places(min(len(a), 9)), places(min(len(b), 9))} {
		wantLead := argument(want == api.OK && plainIsLead(len(a), lead))
		price, e := voices.Price(n, a, b, lead)
		expect(t, "Price", wantLead, e, price == 0, n, a, b, lead)
		ok, e := voices.Cross(n, a, b, lead)
		expect(t, "Cross", wantLead, e, !ok, n, a, b, lead)
	}
	list, e = voices.Calm(n, a, b)
	expect(t, "Calm", want, e, len(list) == 0, n, a, b)
	path, e := voices.Path(n, a, b)
	expect(t, "Path", want, e, len(path) == 0, n, a, b)
	for _, path := range [][][]int{nil, {a}, {a, b}, path} {
		ok, e := voices.IsPath(n, a, b, path)
		expect(t, "IsPath", want, e, !ok, n, a, b, path)
	}
	image, cost, e := voices.Near(n, a, b)
	expect(t, "Near", want, e, len(image) == 0 && cost == 0, n, a, b)
}

func TestOddVoicings(t *testing.T) {
	right, wrong := 0, 0
	for _, n := range odd {
		for _, a := range oddVoicings {
			for _, b := range oddVoicings {
				// The slices that are far too long are tried with few others.
				if len(a) > 8 && len(b) > 8 {
					continue
				}
				checkPair(t, n, a, b)
			}
			if plainIsVoicing(n, a) {
				right++
			} else {
				wrong++
			}
		}
	}
	if right < 100 || wrong < 100 {
		t.Error("too few voicings, or others", right, wrong)
	}
}

func TestVoicingsNextToTheLimits(t *testing.T) {
	for n := 0; n <= 18; n++ {
		for k := 0; k <= 8; k++ {
			for _, other := range []int{k - 1, k, k + 1} {
				if other < 0 {
					continue
				}
				a, b := make([]int, k), make([]int, other)
				want := argument(n >= 2 && n <= 16 && k >= 1 && k <= 6 && k == other)
				if _, e := voices.Cost(n, a, b); e != want {
					t.Error(n, a, b, e)
				}
				checkPair(t, n, a, b)
			}
		}
		for _, tone := range []int{-1, 0, n - 1, n, n + 1} {
			for place := range 6 {
				a := make([]int, 6)
				a[place] = tone
				checkPair(t, n, a, make([]int, 6))
				checkPair(t, n, make([]int, 6), a)
			}
		}
	}
}

func TestOddLeads(t *testing.T) {
	lists := slices.Concat(oddVoicings, leads[1], leads[2], leads[3], leads[4], [][]int{
		{0, 2, 1, 4, 3}, {0, 2, 1, 4, 4}, {0, 2, 1, 4, 5}, {1, 2, 3, 4, 5}, {5, 4, 3, 2, 1, 0}, {5, 4, 3, 2, 1, 1}, {5, 4, 3, 2, 1, -1}, {6, 5, 4, 3, 2, 1}, {0, 1, 2, 3, 4, 5, 6}, {0, 1, 2, 3, 4, 5, 5}, {0, 64}, {64, 0}, {0, 65, 1}, {-63, 0},
	})
	for k := 1; k <= 6; k++ {
		for _, lead := range lists {
			a, b := numbered(12, k, scattered(k, power(12, k))), numbered(12, k, scattered(k+7, power(12, k)))
			want := argument(plainIsLead(k, lead))
			price, e := voices.Price(12, a, b, lead)
			expect(t, "Price", want, e, price == 0, a, b, lead)
			ok, e := voices.Cross(12, a, b, lead)
			expect(t, "Cross", want, e, !ok, a, b, lead)
			price, e = voices.Price(1, a, b, lead)
			expect(t, "Price", api.ErrArg, e, price == 0, a, b, lead)
			ok, e = voices.Cross(17, a, b, lead)
			expect(t, "Cross", api.ErrArg, e, !ok, a, b, lead)
		}
	}
}

// What is no path is no error; what is no voicing is one, whatever the path is.

func TestOddPaths(t *testing.T) {
	long := slices.Repeat([][]int{{0, 4}, {1, 4}}, 1<<16)
	for _, path := range [][][]int{
		nil, {}, {nil}, {nil, nil}, {{}}, oddVoicings, {{0, 4}, {0, math.MaxInt}}, {{0, 4}, {math.MinInt, 4}}, {{0, 4}, {1, math.MinInt + 4}}, {{math.MinInt, math.MaxInt}}, {{0, 4}, make([]int, 1<<20)}, {make([]int, 1<<20)}, make([][]int, 1<<20), long,
	} {
		if ok, e := voices.IsPath(12, []int{0, 4}, []int{1, 5}, path); ok || e != api.OK {
			t.Error(ok, e)
		}
		for _, a := range [][]int{nil, {0}, {0, 12}, {-1, 4}, {0, 4, 7}} {
			if ok, e := voices.IsPath(12, a, []int{1, 5}, path); ok || e != api.ErrArg {
				t.Error(a, ok, e)
			}
			if ok, e := voices.IsPath(12, []int{1, 5}, a, path); ok || e != api.ErrArg {
				t.Error(a, ok, e)
			}
		}
	}
	if ok, e := voices.IsPath(12, []int{0, 4}, []int{4, 1}, long); !ok || e != api.OK {
		t.Error("a long path", ok, e)
	}
}

func TestOddBalls(t *testing.T) {
	for _, n := range odd {
		for _, a := range oddVoicings {
			for _, cost := range odd {
				want := argument(plainIsVoicing(n, a) && cost >= 0 && cost <= 4)
				list, e := voices.Ball(n, a, cost)
				expect(t, "Ball", want, e, len(list) == 0, n, a, cost)
			}
		}
	}
}

func TestOddMiddles(t *testing.T) {
	for _, n := range odd {
		for _, k := range odd {
			for _, a := range oddVoicings {
				for _, list := range [][][]int{{a}, {a, a}, {{0}, a}, {{0, 1}, a}, {a, {1, 0, 1}}, {{0, 0, 0}, {1, 1, 1}, a}, {a, nil}} {
					right := n >= 2 && n <= 12 && k >= 1 && k <= 3
					for _, tones := range list {
						right = right && len(tones) == k && plainIsVoicing(n, tones)
					}
					tones, e := voices.Middle(n, k, list)
					expect(t, "Middle", argument(right), e, len(tones) == 0, n, k, list)
				}
			}
		}
	}
}

func TestMiddlesNextToTheLimits(t *testing.T) {
	for n := 0; n <= 17; n++ {
		for k := -1; k <= 7; k++ {
			for length := 0; length <= 10; length++ {
				list := slices.Repeat([][]int{make([]int, max(k, 0))}, length)
				want := argument(n >= 2 && n <= 12 && k >= 1 && k <= 3 && length >= 1 && length <= 8)
				tones, e := voices.Middle(n, k, list)
				expect(t, "Middle", want, e, len(tones) == 0, n, k, list)
				// One voicing that has another length, at any place.
				for place := range list {
					for _, other := range []int{k - 1, k + 1} {
						if other < 0 {
							continue
						}
						changed := slices.Clone(list)
						changed[place] = make([]int, other)
						tones, e := voices.Middle(n, k, changed)
						expect(t, "Middle", api.ErrArg, e, len(tones) == 0, n, k, changed)
					}
				}
			}
		}
	}
	for _, list := range [][][]int{nil, {}, {nil}, make([][]int, 8), make([][]int, 9), slices.Repeat([][]int{{0}}, 1<<20), {{12}}, {{0}, {-1}}} {
		tones, e := voices.Middle(12, 1, list)
		expect(t, "Middle", api.ErrArg, e, len(tones) == 0)
	}
}

// spare is what stands in the memory behind the slices of the next tests.
const spare = 77

// withSpare returns a slice with room behind it, and all of its memory.
func withSpare(tones []int) (list, all []int) {
	all = append(slices.Clone(tones), spare, spare, spare, spare, spare, spare, spare)
	return all[:len(tones)], all
}

// spoil overwrites a result, and what memory is behind it.
func spoil(list []int) {
	for i := range list[:cap(list)] {
		list[:cap(list)][i] = -1
	}
}

// No argument is changed, and no result shares memory with one (Rule 4).

func TestArgumentsStay(t *testing.T) {
	for p := range fewPairs {
		if (p.a[0]+p.b[0])%4 != 0 {
			continue
		}
		a, allA := withSpare(p.a)
		b, allB := withSpare(p.b)
		lead, allLead := withSpare(must[[]int](t)(voices.Lead(p.n, p.a, p.b)))
		keptA, keptB, keptLead := slices.Clone(allA), slices.Clone(allB), slices.Clone(allLead)
		check := func(name string) {
			if !slices.Equal(allA, keptA) || !slices.Equal(allB, keptB) || !slices.Equal(allLead, keptLead) {
				t.Fatal(name, p, allA, allB, allLead)
			}
		}
		for i, result := range [][]int{
			must[[]int](t)(voices.Lead(p.n, a, b)),
			must[[]int](t)(voices.Calm(p.n, a, b)),
			near(p.n, a, b),
			near(p.n, a, a),
		} {
			spoil(result)
			check([]string{"Lead", "Calm", "Near", "Near"}[i])
		}
		voices.Cost(p.n, a, b)
		voices.Price(p.n, a, b, lead)
		voices.Cross(p.n, a, b, lead)
		for _, other := range [][]int{b, a} {
			path := must[[][]int](t)(voices.Path(p.n, a, other))
			voices.IsPath(p.n, a, other, path)
			for _, tones := range path {
				spoil(tones)
			}
		}
		check("Path")
		for _, tones := range must[[][]int](t)(voices.Ball(p.n, a, len(p.a)%3)) {
			spoil(tones)
		}
		check("Ball")
		if len(a) <= 3 && p.n <= 12 {
			for _, list := range [][][]int{{a}, {a, b}} {
				spoil(must[[]int](t)(voices.Middle(p.n, len(a), list)))
			}
			check("Middle")
		}
	}
}

// near leaves out the cost.
func near(n int, a, b []int) []int {
	image, _, _ := voices.Near(n, a, b)
	return image
}

// Paths and lists that are judged, or that are not valid, are not changed either.

func TestListsStay(t *testing.T) {
	for _, x := range []struct {
		k    int
		list [][]int
	}{
		{2, [][]int{{4, 0}, {4, 1}, {5, 1}}},
		{2, [][]int{{4, 0}, {7, 1}, {5, 1}, {4, 1}}},
		{2, [][]int{{4, 0}, {4, 1, 2}, {5, 1}}},
		{3, [][]int{{7, 4, 0}, {0, 7, 3}}},
		{1, [][]int{nil, {5}, {-1}}},
	} {
		var kept [][]int
		for _, tones := range x.list {
			kept = append(kept, slices.Clone(tones))
		}
		voices.IsPath(12, []int{4, 0}, []int{5, 1}, x.list)
		voices.IsPath(12, x.list[0], x.list[1], x.list)
		voices.Middle(12, x.k, x.list)
		for _, a := range x.list {
			voices.Ball(12, a, 1)
		}
		if !equal(x.list, kept) {
			t.Error(x.list, kept)
		}
	}
}

// checkApart fails if two of the voicings share memory.
func checkApart(t *testing.T, list [][]int) {
	t.Helper()
	for i, tones := range list {
		for j := range tones[:cap(tones)] {
			tones[:cap(tones)][j] = -1 - i
		}
	}
	for i, tones := range list {
		for _, number := range tones {
			if number != -1-i {
				t.Fatal("voicings share memory", list)
			}
		}
	}
}

func TestVoicingsOfOneResultAreApart(t *testing.T) {
	for p := range fewPairs {
		checkApart(t, must[[][]int](t)(voices.Path(p.n, p.a, p.b)))
		checkApart(t, must[[][]int](t)(voices.Ball(p.n, p.a, 1)))
	}
}

// A caller may change what it got, and gets the same again (Rules 2 and 4).

func TestResultsAreNew(t *testing.T) {
	a, b := []int{3, 11, 0, 5, 5, 8}, []int{9, 2, 1, 6, 10, 4}
	for name, call := range map[string]func() ([]int, api.Errno){
		"Lead":   func() ([]int, api.Errno) { return voices.Lead(12, a, b) },
		"Calm":   func() ([]int, api.Errno) { return voices.Calm(12, a, b) },
		"Path":   func() ([]int, api.Errno) { return joined(voices.Path(12, a, b)) },
		"Near":   func() ([]int, api.Errno) { return near(12, a, b), api.OK },
		"Middle": func() ([]int, api.Errno) { return voices.Middle(12, 3, [][]int{a[:3], b[:3], a[3:]}) },
		"Ball":   func() ([]int, api.Errno) { return joined(voices.Ball(12, a, 3)) },
	} {
		first := must[[]int](t)(call())
		kept := slices.Clone(first)
		spoil(first)
		for range 20 {
			if again := must[[]int](t)(call()); !slices.Equal(again, kept) {
				t.Error(name, again, kept)
			}
		}
	}
}

// joined spoils the voicings behind a copy of their tones.
func joined(list [][]int, e api.Errno) ([]int, api.Errno) {
	all := slices.Concat(list...)
	for _, tones := range list {
		spoil(tones)
	}
	return all, e
}
