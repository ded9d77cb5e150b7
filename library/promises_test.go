package library_test

import (
	"fmt"
	"maps"
	"slices"
	"strings"
	"testing"

	"sackbut/api"
	"sackbut/even"
	"sackbut/library"
)

// The changes of everyChange lead through all states of two pieces, three players and the chairs 1, 2 and 8.
func everyChange() []string {
	list := []string{"piece a 0 4 7", "piece b 12", "piece b 21"}
	for _, piece := range []string{"a", "b", "c"} {
		list = append(list, "back "+piece, "burn "+piece)
		for _, player := range []string{"x", "y", "z", "w"} {
			list = append(list, "lend "+piece+" "+player)
		}
	}
	for _, player := range []string{"x", "y", "z"} {
		for _, chair := range []int{0, 1, 2, 8, 9} {
			list = append(list, fmt.Sprint("player ", player, " ", chair), fmt.Sprint("move ", player, " ", chair))
		}
	}
	return append(list, "move w 1")
}

// everyState returns changes that lead to each of these states, which are told apart by State.
func everyState() [][]string {
	list := [][]string{nil}
	first, _ := plainAfter(nil)
	seen := map[string]bool{first.state(): true}
	for i := 0; i < len(list); i++ {
		for _, change := range everyChange() {
			longer := append(slices.Clone(list[i]), change)
			after, e := plainAfter(longer)
			if e == api.OK && !seen[after.state()] {
				seen[after.state()] = true
				list = append(list, longer)
			}
		}
	}
	return list
}

// chairsOf returns the players by their chairs, as the library tells them.
func chairsOf(t *testing.T, l *library.Library) map[string]string {
	t.Helper()
	reply := must[string](t)(l.Ask("chairs"))
	chairs := map[string]string{}
	for _, word := range strings.Fields(reply)[1:] {
		chair, name, _ := strings.Cut(word, ":")
		if chairs[chair] != "" {
			t.Fatal("a chair comes twice:", reply)
		}
		chairs[chair] = name
	}
	return chairs
}

// repliesOf returns the replies to all questions about pieces, players and loans, and to some others.
func repliesOf(t *testing.T, l *library.Library) []string {
	t.Helper()
	var list []string
	for _, line := range []string{"chairs", "loans", "tones a", "tones b", "second a", "second b", "turns a", "turns b", "near a b", "near a a", "near b a", "fill 8 3", "beat 8 3", "walk 0 pl", "every 4", "lead 0 4 7 0 5 9", "flat 7 11", "nothing"} {
		reply, e := l.Ask(line)
		list = append(list, fmt.Sprint(line, ": ", reply, " ", e))
	}
	return list
}

// Every change is tried in every state: what it does (P10.3), who then has which chair (P10.10, P10.11), and that the state is that of the journal (P10.9).
func TestEveryChangeInEveryState(t *testing.T) {
	states := everyState()
	if len(states) != 523 {
		t.Fatal(len(states), "states")
	}
	for _, changes := range states {
		code := plainWritten(changes...)
		var l *library.Library
		for _, change := range everyChange() {
			if l == nil {
				l = must[*library.Library](t)(library.Open(reelOf(t, code)))
			}
			after, _ := plainAfter(changes)
			before := chairsOf(t, l)
			want := after.do(change)
			reply, e := l.Do(change)
			if first, _, _ := strings.Cut(change, " "); e != want || e == api.OK && reply != first || e != api.OK && reply != "" {
				t.Fatal(changes, change, reply, e, want)
			}
			if state := l.State(); state != after.state() {
				t.Fatal(changes, change, state)
			}
			if e != api.OK {
				continue
			}
			checkChairs(t, change, before, chairsOf(t, l))
			checkReplay(t, l)
			l = nil
		}
	}
}

// checkChairs checks what the chairs are after a change.
func checkChairs(t *testing.T, change string, before, after map[string]string) {
	t.Helper()
	if names := slices.Sorted(maps.Values(after)); len(slices.Compact(names)) != len(after) {
		t.Fatal(change, "a player has two chairs", after)
	}
	words := strings.Fields(change)
	switch words[0] {
	case "player":
		want := maps.Clone(before)
		want[words[2]] = words[1]
		if !maps.Equal(want, after) {
			t.Fatal(change, before, after)
		}
	case "move":
		if after[words[2]] != words[1] || len(after) != len(before) {
			t.Fatal(change, before, after)
		}
		gone := 0
		for chair := range before {
			if after[chair] == "" {
				gone++
			}
		}
		if gone > 1 || gone == 1 && before[words[2]] != "" {
			t.Fatal(change, before, after)
		}
	default:
		if !maps.Equal(before, after) {
			t.Fatal(change, before, after)
		}
	}
}

// checkReplay does the journal of a library on a new one (P10.9).
func checkReplay(t *testing.T, l *library.Library) {
	t.Helper()
	other, _ := libraryOf(t, l.Journal()...)
	if other.State() != l.State() || !slices.Equal(other.Journal(), l.Journal()) {
		t.Fatal(l.Journal(), l.State(), other.State())
	}
}

// P10.12 and P10.13, in every state.
func TestAskingAndLending(t *testing.T) {
	for _, changes := range everyState() {
		l := must[*library.Library](t)(library.Open(reelOf(t, plainWritten(changes...))))
		state, journal := l.State(), l.Journal()
		before := repliesOf(t, l)
		for _, line := range []string{"chairs", "loans", "tones a", "piece c 1", "back a", "burn a", "lend a x", "move x 8", "player z 8", ""} {
			l.Ask(line)
		}
		if l.State() != state || !slices.Equal(l.Journal(), journal) {
			t.Fatal("asking", changes, l.State())
		}
		for _, piece := range []string{"a", "b"} {
			for _, player := range []string{"x", "y", "z"} {
				if _, e := l.Do("lend " + piece + " " + player); e != api.OK {
					continue
				}
				must[string](t)(l.Do("back " + piece))
				if after := repliesOf(t, l); !slices.Equal(before, after) {
					t.Fatal("lending", changes, before, after)
				}
			}
		}
		if l.State() != state {
			t.Fatal("lending", changes, l.State())
		}
	}
}

// A player takes over the chair of another one, who gets the old one, or goes to a free one (P10.11).
func TestMoving(t *testing.T) {
	for players := 1; players <= 8; players++ {
		for from := 1; from <= 8; from++ {
			for to := 1; to <= 8; to++ {
				var changes []string
				for i := range players {
					changes = append(changes, fmt.Sprint("player ", somePlayers[i], " ", (from+i-1)%8+1))
				}
				l, _ := libraryOf(t, changes...)
				before := chairsOf(t, l)
				reply, e := l.Do(fmt.Sprint("move ", somePlayers[0], " ", to))
				if from == to {
					if reply != "" || e != api.ErrState {
						t.Fatal(changes, to, reply, e)
					}
					continue
				}
				want := maps.Clone(before)
				old, new := fmt.Sprint(from), fmt.Sprint(to)
				want[old], want[new] = before[new], before[old]
				if before[new] == "" {
					delete(want, old)
				}
				if after := chairsOf(t, l); reply != "move" || e != api.OK || !maps.Equal(after, want) {
					t.Fatal(changes, to, reply, e, after)
				}
			}
		}
	}
}

// P10.1: the power goes off before the first byte for which the fuse does not reach.
func TestFuse(t *testing.T) {
	for k := -2; k <= 6; k++ {
		for length := range 8 {
			b := newBothReels(t, 6)
			b.fuse(k)
			b.append(slices.Repeat([]byte{7}, length))
			b.append(nil)
			b.cut(0)
			b.append([]byte{8})
			b.append([]byte{9, 10})
			b.put(0, 11)
			b.power()
			b.append([]byte{12, 13})
			b.put(0, 14)
			b.put(1, 15)
			b.put(1, 16)
		}
	}
}

func TestFuseByHand(t *testing.T) {
	r := must[*library.Reel](t)(library.NewReel(4))
	r.Fuse(2)
	for _, x := range []struct {
		what string
		e    api.Errno
		want api.Errno
		left []byte
	}{
		{"the fuse reaches", r.Append([]byte{1, 2}), api.OK, nil},
		{"no byte needs no fuse", r.Append(nil), api.OK, nil},
		{"no such byte comes before the fuse", r.Put(2, 9), api.ErrArg, nil},
		{"cutting needs no fuse", r.Cut(1), api.OK, nil},
		{"the fuse is spent", r.Put(0, 9), api.ErrPower, nil},
		{"no power", r.Append(nil), api.ErrPower, nil},
		{"no power comes before no such byte", r.Put(5, 9), api.ErrPower, nil},
		{"no power comes before a length that is none", r.Cut(5), api.ErrPower, nil},
	} {
		if x.e != x.want {
			t.Error(x.what, x.e)
		}
	}
	if left := r.Bytes(); !slices.Equal(left, []byte{1}) {
		t.Error(left)
	}
	r.Flip(0, 7)
	if left := r.Bytes(); !slices.Equal(left, []byte{129}) {
		t.Error("flipping without power", left)
	}
	r.Fuse(5)
	if e := r.Append([]byte{1}); e != api.ErrPower {
		t.Error("a fuse turns no power on", e)
	}
	r.Power()
	if e := r.Append([]byte{3, 4, 5, 6}); e != api.ErrFull {
		t.Error("full", e)
	}
	if left := r.Bytes(); !slices.Equal(left, []byte{129, 3, 4, 5}) {
		t.Error("what there was room for stays", left)
	}
	r.Fuse(1)
	if e := r.Append([]byte{6}); e != api.ErrFull {
		t.Error("full comes where the fuse reaches", e)
	}
	keep(t, r.Put(0, 1))
	if e := r.Append([]byte{6}); e != api.ErrPower {
		t.Error("the spent fuse comes before full; a byte for which there is no room burns none of it", e)
	}
	if e := r.Cut(0); e != api.ErrPower {
		t.Error("the power went off", e)
	}
}

// P10.1: a reel takes just as many bytes as its size says.
func TestSizes(t *testing.T) {
	for _, size := range []int{1, 2, 3, 100, 65_536, 99_999, 100_000} {
		r := must[*library.Reel](t)(library.NewReel(size))
		keep(t, r.Append(make([]byte, size-1)))
		keep(t, r.Append([]byte{1}))
		if e := r.Append([]byte{2}); e != api.ErrFull {
			t.Error(size, e)
		}
		if left := r.Bytes(); len(left) != size || left[size-1] != 1 {
			t.Error(size, len(left))
		}
		keep(t, r.Cut(size-1))
		keep(t, r.Append([]byte{3}))
		r = must[*library.Reel](t)(library.NewReel(size))
		if e := r.Append(make([]byte, size+5)); e != api.ErrFull || len(r.Bytes()) != size {
			t.Error(size, e, len(r.Bytes()))
		}
	}
}

// long are changes that have no error, one behind the other.
func long() []string {
	return []string{"piece ode 0 4 7", "player ada 1", "player bob 2", "lend ode ada", "piece march 20 19 18 17 16 15 14 13", "move ada 2", "back ode", "lend march bob", "burn ode", "player gus 8", "piece ode 1", "lend ode gus", "move gus 3", "back march", "burn march", "piece zzzzzzzz 0", "move bob 3", "move ada 8"}
}

// turned turns one bit, or none, in each byte of a reel.
func turned(r *library.Reel, seed int) {
	for i := range r.Bytes() {
		r.Flip(i, scattered(seed+i, 9))
	}
}

// P10.6 and P6: the power goes off after each number of bytes, and bits turn over.
func TestTurningBits(t *testing.T) {
	changes := long()
	total := len(plainWritten(changes...))
	for k := range total + 1 {
		r := must[*library.Reel](t)(library.NewReel(100_000))
		l := must[*library.Library](t)(library.Open(r))
		r.Fuse(k)
		done := 0
		for done < len(changes) {
			reply, e := l.Do(changes[done])
			if e == api.ErrPower && reply == "" {
				break
			}
			keep(t, e)
			done++
		}
		if len(plainWritten(changes[:done]...)) > k || done < len(changes) && len(plainWritten(changes[:done+1]...)) <= k {
			t.Fatal(k, done, "changes were done")
		}
		if !slices.Equal(l.Journal(), changes[:done]) {
			t.Fatal(k, done, l.Journal())
		}
		turned(r, 1000*k)
		if _, e := library.Open(r); done < len(changes) && e != api.ErrPower {
			t.Fatal(k, e)
		}
		r.Power()
		l = must[*library.Library](t)(library.Open(r))
		want, _ := plainAfter(changes[:done])
		if !slices.Equal(l.Journal(), changes[:done]) || l.State() != want.state() {
			t.Fatal(k, done, l.Journal(), l.State())
		}
		goOn(t, l, r, changes, done)
	}
}

// goOn does the rest of the changes, with a bit of each byte turned before and, as they are healed, again behind it.
func goOn(t *testing.T, l *library.Library, r *library.Reel, changes []string, done int) {
	t.Helper()
	if number := must[int](t)(l.Heal()); number > len(plainWritten(changes[:done]...)) {
		t.Fatal(number)
	}
	for _, change := range changes[done:] {
		must[string](t)(l.Do(change))
	}
	turned(r, 77*done)
	last := must[*library.Library](t)(library.Open(r))
	want, _ := plainAfter(changes)
	if !slices.Equal(last.Journal(), changes) || last.State() != want.state() || l.State() != want.state() {
		t.Fatal(done, last.Journal(), last.State())
	}
}

// After a power loss the same library goes on, too: what was left of a change is cut off.
func TestPowerLossWithin(t *testing.T) {
	changes := long()
	for at, change := range changes {
		code := plainWritten(change)
		for k := range code {
			l, r := libraryOf(t, changes[:at]...)
			state := l.State()
			r.Fuse(k)
			if reply, e := l.Do(change); reply != "" || e != api.ErrPower {
				t.Fatal(change, k, reply, e)
			}
			if left := r.Bytes(); !slices.Equal(left, append(plainWritten(changes[:at]...), code[:k]...)) {
				t.Fatal(change, k, "bytes", len(left))
			}
			if l.State() != state || !slices.Equal(l.Journal(), changes[:at]) {
				t.Fatal(change, k, l.State())
			}
			if reply, e := l.Do(change); reply != "" || e != api.ErrPower {
				t.Fatal(change, k, reply, e)
			}
			if reply, e := l.Ask("chairs"); e != api.OK || !strings.HasPrefix(state, reply+"\n") {
				t.Fatal("without power", reply, e)
			}
			r.Power()
			must[string](t)(l.Do("player oo 7"))
			if left := r.Bytes(); !slices.Equal(left, plainWritten(append(slices.Clone(changes[:at]), "player oo 7")...)) {
				t.Fatal(change, k, "bytes", len(left))
			}
		}
	}
}

// Each bit alone turns over (P10.6), and is healed (P10.7).
func TestEveryBit(t *testing.T) {
	code := plainWritten(long()...)
	r := reelOf(t, code)
	l := must[*library.Library](t)(library.Open(r))
	for i := range code {
		for bit := range 8 {
			r.Flip(i, bit)
			other := must[*library.Library](t)(library.Open(r))
			if !slices.Equal(other.Journal(), long()) || other.State() != l.State() {
				t.Fatal(i, bit, other.Journal())
			}
			if number := must[int](t)(other.Heal()); number != 1 {
				t.Fatal(i, bit, number)
			}
			if left := r.Bytes(); !slices.Equal(left, code) {
				t.Fatal(i, bit, left[i])
			}
		}
	}
}

// P10.7, also where other bytes were put, where there are bytes behind the books, and where the power goes off within it.
func TestHealing(t *testing.T) {
	code := plainWritten(long()...)
	for seed := range 200 {
		r := reelOf(t, code)
		l := must[*library.Library](t)(library.Open(r))
		behind := []byte{1, 2, 3}[:seed%4]
		keep(t, r.Append(behind))
		wrong := 0
		for i := range code {
			if scattered(seed*1000+i, 3) == 0 {
				keep(t, r.Put(i, byte(scattered(seed+i, 256))))
			}
			if scattered(seed*77+i, 3) == 0 {
				r.Flip(i, scattered(i, 8))
			}
			if r.Bytes()[i] != code[i] {
				wrong++
			}
		}
		spoilt := r.Bytes()
		k := scattered(seed, wrong)
		r.Fuse(k)
		if number, e := l.Heal(); number != 0 || e != api.ErrPower {
			t.Fatal(seed, number, e)
		}
		if left := r.Bytes(); !slices.Equal(left, healed(spoilt, code, k)) {
			t.Fatal(seed, k, "what was put stays, and nothing else is changed")
		}
		if number, e := l.Heal(); number != 0 || e != api.ErrPower {
			t.Fatal(seed, number, e)
		}
		r.Power()
		r.Fuse(wrong - k)
		if number := must[int](t)(l.Heal()); number != wrong-k {
			t.Fatal(seed, number, "not", wrong-k)
		}
		if left := r.Bytes(); !slices.Equal(left, append(slices.Clone(code), behind...)) {
			t.Fatal(seed, left)
		}
		if number := must[int](t)(l.Heal()); number != 0 {
			t.Fatal(seed, number)
		}
	}
}

// healed returns bytes of which the first ones that are not the right ones were put so.
func healed(bytes, right []byte, number int) []byte {
	bytes = slices.Clone(bytes)
	for i := range right {
		if number > 0 && bytes[i] != right[i] {
			bytes[i] = right[i]
			number--
		}
	}
	return bytes
}

// P10.8: the code bytes are those that a library writes for all letters.
func TestCodeBytesAreApart(t *testing.T) {
	_, r := libraryOf(t, "piece abcdefgh 0", "piece ijklmnop 0")
	written := map[int]byte{}
	text := "piece abcdefgh 0\npiece ijklmnop 0\n"
	for i, b := range r.Bytes() {
		d := int(text[i/2]) >> (i % 2 * 4) % 16
		if other, is := written[d]; is && other != b {
			t.Fatal(d, "is written as", b, "and", other)
		}
		written[d] = b
	}
	if len(written) != 16 {
		t.Fatal(written)
	}
	for d, a := range written {
		for c, b := range written {
			if c != d && plainApart(a, b) < 4 {
				t.Error(d, c, a, b)
			}
		}
		if a != plainCodeByte(d) {
			t.Error(d, a)
		}
	}
	for b := range 256 {
		if list := plainReads(byte(b)); len(list) > 1 {
			t.Error(b, list)
		}
	}
}

// P10.2: Open cuts the reel, and what is then done is behind the books.
func TestOpening(t *testing.T) {
	changes := long()
	code := plainWritten(changes...)
	for length := range len(code) + 1 {
		r := reelOf(t, code[:length])
		l := must[*library.Library](t)(library.Open(r))
		done := len(l.Journal())
		if !slices.Equal(l.Journal(), changes[:done]) || done < len(changes) && len(plainWritten(changes[:done+1]...)) <= length {
			t.Fatal(length, l.Journal())
		}
		if left := r.Bytes(); !slices.Equal(left, plainWritten(changes[:done]...)) {
			t.Fatal(length, len(left))
		}
		must[string](t)(l.Do("piece last 3"))
		again := must[*library.Library](t)(library.Open(r))
		if want := append(slices.Clone(changes[:done]), "piece last 3"); !slices.Equal(again.Journal(), want) || again.State() != l.State() {
			t.Fatal(length, again.Journal())
		}
	}
}

// P10.3: there has to be room for all bytes of a change. What is behind the books is cut off before.
func TestRoom(t *testing.T) {
	first, next := "piece a 0", "player bob 8"
	for size := len(plainWritten(first)); size <= len(plainWritten(first, next))+2; size++ {
		for behind := range 4 {
			r := must[*library.Reel](t)(library.NewReel(size))
			l := must[*library.Library](t)(library.Open(r))
			must[string](t)(l.Do(first))
			if e := r.Append(make([]byte, behind)); e != api.OK && size >= len(plainWritten(first))+behind {
				t.Fatal(e)
			}
			reply, e := l.Do(next)
			want := plainWritten(first)
			if size >= len(plainWritten(first, next)) {
				want = plainWritten(first, next)
				keep(t, e)
			} else if reply != "" || e != api.ErrFull || len(l.Journal()) != 1 || l.State() != "chairs\nloans\npiece a 0\n" {
				t.Fatal(size, reply, e, l.State())
			}
			if left := r.Bytes(); !slices.Equal(left, want) {
				t.Fatal(size, behind, len(left))
			}
		}
	}
}

// A reel takes as many changes as there is room for, and the last ones are not forgotten.
func TestFullReel(t *testing.T) {
	l, r := libraryOf(t, "piece a 0", "player b 1")
	number := 2
	for {
		change := []string{"lend a b", "back a"}[number%2]
		reply, e := l.Do(change)
		if e == api.ErrFull && reply == "" {
			if left := 100_000 - len(r.Bytes()); left >= len(plainWritten(change)) {
				t.Fatal("room for", left)
			}
			break
		}
		keep(t, e)
		number++
	}
	journal := l.Journal()
	if len(journal) != number || number < 6000 {
		t.Fatal(len(journal), number)
	}
	turned(r, 5)
	other := must[*library.Library](t)(library.Open(r))
	if !slices.Equal(other.Journal(), journal) || other.State() != l.State() {
		t.Fatal(len(other.Journal()))
	}
	if healed := must[int](t)(other.Heal()); healed < 80_000 {
		t.Fatal(healed)
	}
}

// P10.5: the journal is that of the books at Open and of what was done since, and nothing else.
func TestJournal(t *testing.T) {
	l, r := libraryOf(t)
	if journal := l.Journal(); len(journal) != 0 {
		t.Fatal(journal)
	}
	for i, change := range long() {
		l.Do("move nobody 1")
		l.Do("chairs")
		l.Ask("chairs")
		must[string](t)(l.Do(change))
		if journal := l.Journal(); !slices.Equal(journal, long()[:i+1]) {
			t.Fatal(journal)
		}
		if i%3 == 0 {
			l = must[*library.Library](t)(library.Open(r))
		}
	}
	// The journal is the library's, not the reel's: it stays when the reel is cut.
	keep(t, r.Cut(0))
	if journal := l.Journal(); !slices.Equal(journal, long()) {
		t.Fatal(journal)
	}
}

func TestState(t *testing.T) {
	l, _ := libraryOf(t)
	if state := l.State(); state != "chairs\nloans\n" {
		t.Errorf("%q", state)
	}
	l, _ = libraryOf(t, "piece b 1 20", "piece a 0", "piece aa 3", "player z 1", "player a 8", "player m 5", "lend b z", "lend aa z", "lend a m")
	want := "chairs 1:z 5:m 8:a\nloans a:m aa:z b:z\npiece a 0\npiece aa 3\npiece b 1 20\n"
	if state := l.State(); state != want {
		t.Errorf("%q", state)
	}
}

// Two libraries, each on its own reel, know nothing of each other.
func TestLibrariesAreApart(t *testing.T) {
	one, _ := libraryOf(t, "piece a 0", "player b 1")
	two, _ := libraryOf(t, "piece a 5")
	must[string](t)(one.Do("lend a b"))
	must[string](t)(two.Do("burn a"))
	if one.State() != "chairs 1:b\nloans a:b\npiece a 0\n" || two.State() != "chairs\nloans\n" {
		t.Error(one.State(), two.State())
	}
}

// P3: the seven tones on which bright triads stand that two steps, again and again, lead to are an even scale that a step makes.
func TestWalksMakeEvenScales(t *testing.T) {
	l, _ := libraryOf(t)
	for _, steps := range []string{"rl", "lr"} {
		scale, triad := 0, 0
		for range 7 {
			scale |= 1 << triad
			reply := must[string](t)(l.Ask(fmt.Sprint("walk ", triad, " ", steps)))
			fmt.Sscanf(reply, "walk %d", &triad)
		}
		if maker := must[int](t)(even.Maker(12, scale)); maker != 5 || !must[bool](t)(even.Even(12, scale)) {
			t.Error(steps, scale, maker)
		}
	}
}
