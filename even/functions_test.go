package even_test

import (
	"slices"
	"strconv"
	"strings"
	"testing"

	"sackbut/api"
	"sackbut/even"
)

// must returns a result and fails the test unless there is no error.
func must[T any](t *testing.T) func(T, api.Errno) T {
	t.Helper()
	return func(result T, e api.Errno) T {
		t.Helper()
		if e != api.OK {
			t.Fatal("error", e)
		}
		return result
	}
}

// P3.1

func TestSpreadOfAll(t *testing.T) {
	for n := 2; n <= 16; n++ {
		for k := 1; k <= n; k++ {
			for m := range n {
				if scale, e := even.Spread(n, k, m); scale != plainSpread(n, k, m) || e != api.OK {
					t.Fatal(n, k, m, scale, e)
				}
			}
		}
	}
}

func TestSpread(t *testing.T) {
	for _, x := range []struct{ n, k, m, want int }{
		{8, 3, 0, scaleOf(0, 2, 5)},
		{8, 3, 1, scaleOf(0, 3, 5)},
		{8, 3, 2, scaleOf(0, 3, 6)},
		{8, 3, 7, scaleOf(2, 5, 7)},
		{12, 7, 5, scaleOf(0, 2, 4, 5, 7, 9, 11)},
		{12, 5, 0, scaleOf(0, 2, 4, 7, 9)},
		{12, 3, 3, scaleOf(1, 5, 9)},
		{2, 1, 0, 1},
		{2, 1, 1, 2},
		{2, 2, 1, 3},
		{16, 1, 15, 1 << 15},
		{16, 16, 15, 1<<16 - 1},
		{16, 15, 0, 1<<15 - 1},
		{16, 15, 15, 1<<16 - 2},
	} {
		if scale, e := even.Spread(x.n, x.k, x.m); scale != x.want || e != api.OK {
			t.Error(x, scale, e)
		}
	}
}

// P3.2

func written(strokes []int) string {
	var text strings.Builder
	for _, stroke := range strokes {
		text.WriteString(strconv.Itoa(stroke))
	}
	return text.String()
}

func TestStrokesOfAll(t *testing.T) {
	for n := 2; n <= 16; n++ {
		for k := 1; k <= n; k++ {
			strokes, e := even.Strokes(n, k)
			if written(strokes) != plainStrokes(n, k) || e != api.OK {
				t.Fatal(n, k, strokes, e, "not", plainStrokes(n, k))
			}
		}
	}
}

func TestStrokes(t *testing.T) {
	for _, x := range []struct {
		n, k int
		want string
	}{
		{8, 3, "10010010"},
		{8, 5, "10110110"},
		{2, 1, "10"},
		{2, 2, "11"},
		{3, 2, "110"}, // one group of the second sort stays at the end
		{4, 2, "1010"},
		{4, 3, "1110"},
		{5, 2, "10100"},
		{5, 3, "10101"},
		{7, 3, "1010100"},
		{12, 5, "100101001010"},
		{12, 7, "101101011010"},
		{13, 5, "1001010010100"},
		{16, 1, "1000000000000000"},
		{16, 4, "1000100010001000"},
		{16, 5, "1001001001001000"},
		{16, 7, "1001010100101010"},
		{16, 9, "1011010101101010"},
		{16, 11, "1011011011011011"},
		{16, 13, "1011110111101111"},
		{16, 15, "1111111111111110"},
		{16, 16, "1111111111111111"},
	} {
		if strokes, e := even.Strokes(x.n, x.k); written(strokes) != x.want || e != api.OK {
			t.Error(x, written(strokes), e)
		}
	}
}

// P3.3

func TestEvenAndWordOfSamples(t *testing.T) {
	for n, scale := range samples {
		if ok, e := even.Even(n, scale); ok != plainEven(n, scale) || e != api.OK {
			t.Fatal("Even", n, scale, ok, e)
		}
		if word, e := even.Word(n, scale); !slices.Equal(word, plainSizes(n, scale, 1)) || e != api.OK {
			t.Fatal("Word", n, scale, word, e)
		}
	}
}

func TestEven(t *testing.T) {
	for _, x := range []struct {
		n, scale int
		want     bool
	}{
		{8, scaleOf(0, 2, 5), true},
		{8, scaleOf(0, 3, 6), true},
		{8, scaleOf(0, 1, 4), false}, // three sizes of a step
		{8, scaleOf(0, 2, 4), false}, // two sizes that do not follow each other
		{8, scaleOf(0, 1, 2, 3), false},
		{12, scaleOf(0, 2, 4, 5, 7, 9, 11), true},
		{12, scaleOf(0, 2, 3, 5, 7, 8, 11), false},
		{12, scaleOf(0, 2, 4, 6, 8, 9, 11), false},  // steps of 1 and 2, but three sizes of three steps
		{12, scaleOf(0, 2, 4, 6, 8, 10, 11), false}, // steps of 1 and 2, but three sizes of two steps
		{12, scaleOf(0, 4, 8), true},
		{12, scaleOf(3), true},
		{2, 1, true},
		{2, 2, true},
		{2, 3, true},
		{16, 1 << 15, true},
		{16, 1<<16 - 1, true},
		{16, 1<<16 - 2, true},
		{16, 1<<16 - 4, false},
	} {
		if ok, e := even.Even(x.n, x.scale); ok != x.want || e != api.OK {
			t.Error(x, ok, e)
		}
	}
}

func TestWord(t *testing.T) {
	for _, x := range []struct {
		n, scale int
		want     []int
	}{
		{8, scaleOf(0, 2, 5), []int{2, 3, 3}},
		{8, scaleOf(0, 3, 6), []int{3, 3, 2}},
		{8, scaleOf(1, 3, 6), []int{2, 3, 3}},
		{12, scaleOf(0, 2, 4, 5, 7, 9, 11), []int{2, 2, 1, 2, 2, 2, 1}},
		{12, scaleOf(7), []int{12}}, // once around
		{12, scaleOf(0), []int{12}},
		{12, scaleOf(4, 7), []int{3, 9}},
		{2, 3, []int{1, 1}},
		{16, 1<<15 | 1<<14, []int{1, 15}},
	} {
		if word, e := even.Word(x.n, x.scale); !slices.Equal(word, x.want) || e != api.OK {
			t.Error(x, word, e)
		}
	}
}

// P3.4

func TestSpansOfSamples(t *testing.T) {
	for n, scale := range samples {
		k := len(plainTones(n, scale))
		for j := 1; j < k; j++ {
			if sizes, e := even.Spans(n, scale, j); !slices.Equal(sizes, plainDifferent(n, scale, j)) || e != api.OK {
				t.Fatal(n, scale, j, sizes, e)
			}
		}
		for _, j := range []int{-k, -1, 0, k, k + 1, n, n + 1} {
			if j >= 1 && j < k {
				continue
			}
			if sizes, e := even.Spans(n, scale, j); len(sizes) != 0 || e != api.ErrArg {
				t.Fatal(n, scale, j, sizes, e)
			}
		}
	}
}

func TestSpans(t *testing.T) {
	for _, x := range []struct {
		n, scale, j int
		want        []int
		e           api.Errno
	}{
		{8, scaleOf(0, 2, 5), 1, []int{2, 3}, api.OK},
		{8, scaleOf(0, 2, 5), 2, []int{5, 6}, api.OK},
		{8, scaleOf(0, 2, 5), 3, nil, api.ErrArg},
		{8, scaleOf(0, 2, 5), 0, nil, api.ErrArg},
		{8, scaleOf(0, 1, 4), 1, []int{1, 3, 4}, api.OK},
		{8, scaleOf(1, 4, 5), 1, []int{1, 3, 4}, api.OK},
		{12, scaleOf(0, 4, 8), 2, []int{8}, api.OK},
		{12, scaleOf(5), 1, nil, api.ErrArg}, // one tone has no span
		{12, scaleOf(0, 2, 4, 5, 7, 9, 11), 3, []int{5, 6}, api.OK},
		{16, 1<<16 - 1, 15, []int{15}, api.OK},
		{16, 1<<16 - 1, 16, nil, api.ErrArg},
	} {
		if sizes, e := even.Spans(x.n, x.scale, x.j); !slices.Equal(sizes, x.want) || e != x.e {
			t.Error(x, sizes, e)
		}
	}
}

// P3.5

func TestMakerAndTwoOfSamples(t *testing.T) {
	for n, scale := range samples {
		want, wantE := plainMaker(n, scale), api.OK
		if want == 0 {
			wantE = api.ErrNone
		}
		if g, e := even.Maker(n, scale); g != want || e != wantE {
			t.Fatal("Maker", n, scale, g, e, "not", want, wantE)
		}
		if ok, e := even.Two(n, scale); ok != plainTwo(n, scale) || e != api.OK {
			t.Fatal("Two", n, scale, ok, e)
		}
	}
}

func TestMaker(t *testing.T) {
	for _, x := range []struct {
		n, scale, want int
		e              api.Errno
	}{
		{8, 73, 3, api.OK},
		{12, scaleOf(0, 2, 4, 5, 7, 9, 11), 5, api.OK},
		{12, scaleOf(0, 4, 8), 4, api.OK}, // a step that has a common factor with n
		{12, scaleOf(0, 3, 6, 9), 3, api.OK},
		{12, scaleOf(1, 5), 4, api.OK},
		{12, scaleOf(0, 9), 3, api.OK}, // up from 9, past 0
		{12, scaleOf(0, 3, 7), 0, api.ErrNone},
		{12, scaleOf(0, 1, 6, 7), 0, api.ErrNone}, // 6 comes back to 0 too early
		{12, scaleOf(6), 1, api.OK},
		{2, 2, 1, api.OK},
		{2, 3, 1, api.OK},
		{12, 1<<12 - 1, 1, api.OK},
		{16, 1<<16 - 2, 1, api.OK},
		{16, scaleOf(0, 2, 4, 6, 8, 10, 12, 14), 2, api.OK},
		{16, scaleOf(0, 8), 8, api.OK},
		{16, scaleOf(0, 4, 8, 12, 1, 5, 9, 13), 0, api.ErrNone},
	} {
		if g, e := even.Maker(x.n, x.scale); g != x.want || e != x.e {
			t.Error(x, g, e)
		}
	}
}

func TestTwo(t *testing.T) {
	for _, x := range []struct {
		n, scale int
		want     bool
	}{
		{12, scaleOf(0, 2, 4, 5, 7, 9, 11), true},
		{12, scaleOf(0, 1, 2), true}, // 1 and 10, 2 and 11: not even, but two
		{12, scaleOf(0, 4, 8), false},
		{12, scaleOf(0, 6), false},
		{12, scaleOf(0, 5), true},
		{12, scaleOf(0, 3, 7), false},
		{8, scaleOf(0, 1, 4, 5), false}, // two steps have one size
		{12, scaleOf(4), false},
		{2, 1, false},
		{2, 3, false},
		{16, 1<<16 - 1, false},
		{16, 1<<16 - 2, true},
	} {
		if ok, e := even.Two(x.n, x.scale); ok != x.want || e != api.OK {
			t.Error(x, ok, e)
		}
	}
}

// P3.6

func TestSumOfSamples(t *testing.T) {
	for n, scale := range samples {
		if sum, e := even.Sum(n, scale); sum != plainSum(n, scale) || e != api.OK {
			t.Fatal(n, scale, sum, e)
		}
	}
}

func TestSum(t *testing.T) {
	for _, x := range []struct{ n, scale, want int }{
		{8, scaleOf(0, 2, 5), 12 + 15 + 15},
		{8, scaleOf(0, 1, 2), 7 + 12 + 7},
		{8, scaleOf(3), 0},
		{2, 3, 1},
		{12, scaleOf(0, 6), 36},
		{12, scaleOf(0, 11), 11},
		{16, 1<<16 - 1, 16 * 680 / 2}, // from each tone 1*15 + 2*14 + .. + 15*1
	} {
		if sum, e := even.Sum(x.n, x.scale); sum != x.want || e != api.OK {
			t.Error(x, sum, e)
		}
	}
}

func plainMost(n int, scales []int) []int {
	greatest := 0
	for _, scale := range scales {
		greatest = max(greatest, plainSum(n, scale))
	}
	return slices.DeleteFunc(slices.Clone(scales), func(scale int) bool { return plainSum(n, scale) != greatest })
}

// P3.6 and P3.7

func TestMostAndListOfAll(t *testing.T) {
	for n := 2; n <= 14; n++ {
		for k, scales := range plainScales(n) {
			if k == 0 {
				continue
			}
			if list, e := even.Most(n, k); !slices.Equal(list, plainMost(n, scales)) || e != api.OK {
				t.Fatal("Most", n, k, list, e)
			}
			want := slices.DeleteFunc(scales, func(scale int) bool { return !plainEven(n, scale) })
			if list, e := even.List(n, k); !slices.Equal(list, want) || e != api.OK {
				t.Fatal("List", n, k, list, e)
			}
		}
	}
}

func TestMostAndList(t *testing.T) {
	for _, x := range []struct {
		n, k int
		want []int
	}{
		{12, 3, []int{273, 546, 1092, 2184}},
		{8, 3, []int{37, 41, 73, 74, 82, 146, 148, 164}},
		{3, 1, []int{1, 2, 4}},
		{2, 1, []int{1, 2}},
		{2, 2, []int{3}},
		{16, 8, []int{0x5555, 0xaaaa}},
		{16, 16, []int{0xffff}},
		{16, 15, []int{0x7fff, 0xbfff, 0xdfff, 0xefff, 0xf7ff, 0xfbff, 0xfdff, 0xfeff, 0xff7f, 0xffbf, 0xffdf, 0xffef, 0xfff7, 0xfffb, 0xfffd, 0xfffe}},
	} {
		if list, e := even.Most(x.n, x.k); !slices.Equal(list, x.want) || e != api.OK {
			t.Error("Most", x, list, e)
		}
		if list, e := even.List(x.n, x.k); !slices.Equal(list, x.want) || e != api.OK {
			t.Error("List", x, list, e)
		}
	}
}
