package voices_test

import (
	"slices"
	"testing"

	"sackbut/api"
	"sackbut/voices"
)

// moved returns the voicing with k added to all tones, without a change of their order.
func moved(n int, tones []int, k int) []int {
	var list []int
	for _, tone := range tones {
		list = append(list, (tone+k)%n)
	}
	return list
}

// turned returns the voicing with each tone x replaced by k - x.
func turned(n int, tones []int, k int) []int {
	var list []int
	for _, tone := range tones {
		list = append(list, (k-tone+n)%n)
	}
	return list
}

// tonesOf returns tones in order.
func tonesOf(tones []int) []int {
	return slices.Sorted(slices.Values(tones))
}

// mixed returns the tones in another order.
func mixed(tones []int) []int {
	order := leads[len(tones)][(7*tones[0]+5*tones[len(tones)-1]+3)%len(leads[len(tones)])]
	var list []int
	for _, place := range order {
		list = append(list, tones[place])
	}
	return list
}

// P6.8

func TestCostOfPairs(t *testing.T) {
	same := 0
	for p := range somePairs {
		cost := must[int](t)(voices.Cost(p.n, p.a, p.b))
		if cost < 0 || (cost == 0) != slices.Equal(tonesOf(p.a), tonesOf(p.b)) {
			t.Fatal(p, cost)
		}
		if cost == 0 {
			same++
		}
		if back := must[int](t)(voices.Cost(p.n, p.b, p.a)); back != cost {
			t.Fatal(p, cost, back)
		}
		if other := must[int](t)(voices.Cost(p.n, mixed(p.a), mixed(p.b))); other != cost {
			t.Fatal(p, cost, other)
		}
		lead := must[[]int](t)(voices.Lead(p.n, p.a, p.b))
		if price := must[int](t)(voices.Price(p.n, p.a, p.b, lead)); price != cost {
			t.Fatal(p, cost, lead, price)
		}
	}
	if same < 1000 {
		t.Error("too few pairs with the same tones", same)
	}
}

func TestCostByWayOfAThirdVoicing(t *testing.T) {
	equal := 0
	for p := range somePairs {
		cost := must[int](t)(voices.Cost(p.n, p.a, p.b))
		total := power(p.n, len(p.a))
		for i := range 3 {
			third := numbered(p.n, len(p.a), scattered(cost+31*p.a[0]+i, total))
			there := must[int](t)(voices.Cost(p.n, p.a, third))
			on := must[int](t)(voices.Cost(p.n, third, p.b))
			if cost > there+on {
				t.Fatal(p, cost, third, there, on)
			}
			if cost == there+on {
				equal++
			}
		}
	}
	if equal < 1000 {
		t.Error("too few third voicings on the way", equal)
	}
}

func TestCostOfImages(t *testing.T) {
	for p := range fewPairs {
		cost := must[int](t)(voices.Cost(p.n, p.a, p.b))
		for k := range p.n {
			if up := must[int](t)(voices.Cost(p.n, moved(p.n, p.a, k), moved(p.n, p.b, k))); up != cost {
				t.Fatal(p, k, up, cost)
			}
			if down := must[int](t)(voices.Cost(p.n, turned(p.n, p.a, k), turned(p.n, p.b, k))); down != cost {
				t.Fatal(p, k, down, cost)
			}
		}
	}
}

// P6.9

func TestCalmIsCalm(t *testing.T) {
	for p := range somePairs {
		calm := must[[]int](t)(voices.Calm(p.n, p.a, p.b))
		lead := must[[]int](t)(voices.Lead(p.n, p.a, p.b))
		if must[int](t)(voices.Price(p.n, p.a, p.b, calm)) != must[int](t)(voices.Price(p.n, p.a, p.b, lead)) {
			t.Fatal(p, calm, lead)
		}
		crosses := must[bool](t)(voices.Cross(p.n, p.a, p.b, calm))
		if crosses {
			t.Fatal(p, calm)
		}
		// Without a crossing the first leading of all is the calm one.
		if slices.Equal(calm, lead) == must[bool](t)(voices.Cross(p.n, p.a, p.b, lead)) {
			t.Fatal(p, calm, lead)
		}
	}
}

// P6.10

func TestRotations(t *testing.T) {
	for p := range somePairs {
		a, b := tonesOf(p.a), tonesOf(p.b)
		k := len(a)
		least := -1
		for places := range k {
			var rotation []int
			for voice := range k {
				rotation = append(rotation, (voice+places)%k)
			}
			price := must[int](t)(voices.Price(p.n, a, b, rotation))
			if least < 0 || price < least {
				least = price
			}
		}
		if cost := must[int](t)(voices.Cost(p.n, p.a, p.b)); cost != least {
			t.Fatal(p, cost, least)
		}
	}
}

// P6.11

func TestPathsAreTheShortest(t *testing.T) {
	for p := range somePairs {
		path := must[[][]int](t)(voices.Path(p.n, p.a, p.b))
		cost := must[int](t)(voices.Cost(p.n, p.a, p.b))
		if len(path) != cost+1 {
			t.Fatal(p, path, cost)
		}
		if !must[bool](t)(voices.IsPath(p.n, p.a, p.b, path)) {
			t.Fatal(p, path)
		}
	}
}

// fewest goes out from a, all voicings of one more step at a time, and returns with how many voicings a path comes to all others.
func fewest(n int, a []int) map[[6]int]int {
	key := func(tones []int) (array [6]int) {
		copy(array[:], tones)
		return array
	}
	found := map[[6]int]int{key(a): 1}
	for queue := [][]int{a}; len(queue) > 0; queue = queue[1:] {
		for voice := range a {
			for _, step := range []int{1, n - 1} {
				next := slices.Clone(queue[0])
				next[voice] = (next[voice] + step) % n
				if found[key(next)] == 0 {
					found[key(next)] = found[key(queue[0])] + 1
					queue = append(queue, next)
				}
			}
		}
	}
	least := map[[6]int]int{}
	for tones, length := range found {
		ordered := key(tonesOf(tones[:len(a)]))
		if least[ordered] == 0 || length < least[ordered] {
			least[ordered] = length
		}
	}
	return least
}

func TestNoPathIsShorter(t *testing.T) {
	for n := 2; n <= 16; n++ {
		for k := 1; k <= 6; k++ {
			total := power(n, k)
			if total > 5000 {
				continue
			}
			for i := range 3 {
				a := numbered(n, k, scattered(i, total))
				for tones, length := range fewest(n, a) {
					path := must[[][]int](t)(voices.Path(n, a, mixed(tones[:k])))
					if len(path) != length {
						t.Fatal(n, a, tones, path, length)
					}
				}
			}
		}
	}
}

// P6.12

func TestNearOfImages(t *testing.T) {
	for p := range fewPairs {
		for _, image := range [][]int{p.a, mixed(p.a), moved(p.n, p.a, p.b[0]), turned(p.n, p.a, p.b[0]), mixed(turned(p.n, p.a, 1))} {
			if near, cost, e := voices.Near(p.n, p.a, image); !slices.Equal(near, tonesOf(p.a)) || cost != 0 || e != api.OK {
				t.Fatal(p, image, near, cost, e)
			}
		}
	}
}

func TestNearIsNearer(t *testing.T) {
	nearer := 0
	for p := range fewPairs {
		near, cost, e := voices.Near(p.n, p.a, p.b)
		all := must[int](t)(voices.Cost(p.n, p.a, p.b))
		if e != api.OK || cost > all || cost != must[int](t)(voices.Cost(p.n, p.a, near)) || !slices.IsSorted(near) {
			t.Fatal(p, near, cost, e, all)
		}
		if cost < all {
			nearer++
		}
		// Another image of the second voicing has the same images.
		other, same, e := voices.Near(p.n, p.a, mixed(turned(p.n, p.b, 3%p.n)))
		if !slices.Equal(other, near) || same != cost || e != api.OK {
			t.Fatal(p, near, cost, other, same, e)
		}
	}
	if nearer < 1000 {
		t.Error("too few voicings that have a nearer image", nearer)
	}
}

// P6.13

func TestBallsGrow(t *testing.T) {
	for p := range fewPairs {
		if (p.a[0]+p.b[0])%9 != 0 {
			continue
		}
		var last [][]int
		for cost := range 5 {
			list := must[[][]int](t)(voices.Ball(p.n, p.a, cost))
			if cost == 0 && !equal(list, [][]int{tonesOf(p.a)}) {
				t.Fatal(p, list)
			}
			checkBall(t, p, cost, list, last)
			last = list
		}
	}
}

// checkBall looks whether a list is in order, has all of the lesser ball, and no more of cost at most that of the lesser one, and whether b is in it if it has to be.
func checkBall(t *testing.T, p pair, cost int, list, lesser [][]int) {
	t.Helper()
	there := 0
	for i, tones := range list {
		if !slices.IsSorted(tones) || i > 0 && slices.Compare(list[i-1], tones) >= 0 {
			t.Fatal(p, cost, list)
		}
		far := must[int](t)(voices.Cost(p.n, p.a, tones))
		if far > cost {
			t.Fatal(p, cost, tones, far)
		}
		if far < cost {
			if !slices.Equal(tones, lesser[there]) {
				t.Fatal(p, cost, tones, lesser)
			}
			there++
		}
	}
	if there != len(lesser) {
		t.Fatal(p, cost, there, len(lesser))
	}
	near := must[int](t)(voices.Cost(p.n, p.a, p.b)) <= cost
	if _, found := slices.BinarySearchFunc(list, tonesOf(p.b), slices.Compare[[]int]); found != near {
		t.Fatal(p, cost, list)
	}
}

func TestMiddleOfOne(t *testing.T) {
	for n := 2; n <= 12; n++ {
		for k := 1; k <= 3; k++ {
			for number := 0; number < power(n, k); number += power(n, k)/400 + 1 {
				a := numbered(n, k, number)
				for _, list := range [][][]int{{a}, {a, mixed(a)}, {mixed(a), a, a, a, a, a, a, a}} {
					if tones, e := voices.Middle(n, k, list); !slices.Equal(tones, tonesOf(a)) || e != api.OK {
						t.Fatal(n, list, tones, e)
					}
				}
			}
		}
	}
}
