package library_test

import (
	"fmt"
	"slices"
	"strings"
	"testing"

	"sackbut/api"
	"sackbut/library"
)

// must returns a result that has to come without an error.
func must[T any](t *testing.T) func(T, api.Errno) T {
	return func(result T, e api.Errno) T {
		t.Helper()
		if e != api.OK {
			t.Fatal("error", e)
		}
		return result
	}
}

// keep fails if there is an error.
func keep(t *testing.T, e api.Errno) {
	t.Helper()
	if e != api.OK {
		t.Fatal("error", e)
	}
}

// reelOf returns a reel with some bytes, and room behind them.
func reelOf(t *testing.T, code []byte) *library.Reel {
	t.Helper()
	r := must[*library.Reel](t)(library.NewReel(100_000))
	keep(t, r.Append(code))
	return r
}

// libraryOf returns a library in which changes were done, and its reel.
func libraryOf(t *testing.T, changes ...string) (*library.Library, *library.Reel) {
	t.Helper()
	r := must[*library.Reel](t)(library.NewReel(100_000))
	l := must[*library.Library](t)(library.Open(r))
	for _, change := range changes {
		must[string](t)(l.Do(change))
	}
	return l, r
}

func TestExamples(t *testing.T) {
	l, _ := libraryOf(t, "piece ode 0 4 7", "player ada 1", "player bob 2", "move ada 2")
	for _, x := range [][2]string{
		{"tones ode", "tones 137"},
		{"fill 8 3", "fill 85"},
		{"beat 8 3", "beat 1 0 0 1 0 0 1 0"},
		{"walk 0 pl", "walk 8"},
		{"every 4", "every 0 1 3 2"},
		{"lead 0 4 7 0 5 9", "lead 3"},
		{"flat 7 11", "flat yes"},
		{"chairs", "chairs 1:bob 2:ada"},
		{"loans", "loans"},
	} {
		if reply, e := l.Ask(x[0]); reply != x[1] || e != api.OK {
			t.Error(x, reply, e)
		}
	}
}

func TestRepliesToChanges(t *testing.T) {
	l, _ := libraryOf(t)
	for _, x := range []struct {
		line, reply string
		e           api.Errno
		state       string
	}{
		{"piece ode 0 4 7", "piece", api.OK, "chairs\nloans\npiece ode 0 4 7\n"},
		{"piece ode 1", "", api.ErrState, "chairs\nloans\npiece ode 0 4 7\n"},
		{"player ada 3", "player", api.OK, "chairs 3:ada\nloans\npiece ode 0 4 7\n"},
		{"player ada 4", "", api.ErrState, "chairs 3:ada\nloans\npiece ode 0 4 7\n"},
		{"player bob 3", "", api.ErrState, "chairs 3:ada\nloans\npiece ode 0 4 7\n"},
		{"player bob 9", "", api.ErrArg, "chairs 3:ada\nloans\npiece ode 0 4 7\n"},
		{"player bob 1", "player", api.OK, "chairs 1:bob 3:ada\nloans\npiece ode 0 4 7\n"},
		{"piece air 20", "piece", api.OK, "chairs 1:bob 3:ada\nloans\npiece air 20\npiece ode 0 4 7\n"},
		{"piece jig 21", "", api.ErrArg, "chairs 1:bob 3:ada\nloans\npiece air 20\npiece ode 0 4 7\n"},
		{"lend ode bob", "lend", api.OK, "chairs 1:bob 3:ada\nloans ode:bob\npiece air 20\npiece ode 0 4 7\n"},
		{"lend ode ada", "", api.ErrState, "chairs 1:bob 3:ada\nloans ode:bob\npiece air 20\npiece ode 0 4 7\n"},
		{"lend air bob", "lend", api.OK, "chairs 1:bob 3:ada\nloans air:bob ode:bob\npiece air 20\npiece ode 0 4 7\n"},
		{"burn ode", "", api.ErrState, "chairs 1:bob 3:ada\nloans air:bob ode:bob\npiece air 20\npiece ode 0 4 7\n"},
		{"back ode", "back", api.OK, "chairs 1:bob 3:ada\nloans air:bob\npiece air 20\npiece ode 0 4 7\n"},
		{"back ode", "", api.ErrState, "chairs 1:bob 3:ada\nloans air:bob\npiece air 20\npiece ode 0 4 7\n"},
		{"burn ode", "burn", api.OK, "chairs 1:bob 3:ada\nloans air:bob\npiece air 20\n"},
		{"burn ode", "", api.ErrNone, "chairs 1:bob 3:ada\nloans air:bob\npiece air 20\n"},
		{"back ode", "", api.ErrNone, "chairs 1:bob 3:ada\nloans air:bob\npiece air 20\n"},
		{"lend ode bob", "", api.ErrNone, "chairs 1:bob 3:ada\nloans air:bob\npiece air 20\n"},
		{"lend air cy", "", api.ErrNone, "chairs 1:bob 3:ada\nloans air:bob\npiece air 20\n"},
		{"move cy 1", "", api.ErrNone, "chairs 1:bob 3:ada\nloans air:bob\npiece air 20\n"},
		{"move ada 0", "", api.ErrArg, "chairs 1:bob 3:ada\nloans air:bob\npiece air 20\n"},
		{"move ada 3", "", api.ErrState, "chairs 1:bob 3:ada\nloans air:bob\npiece air 20\n"},
		{"move ada 8", "move", api.OK, "chairs 1:bob 8:ada\nloans air:bob\npiece air 20\n"},
		{"move bob 8", "move", api.OK, "chairs 1:ada 8:bob\nloans air:bob\npiece air 20\n"},
		{"piece ode 1 2 3 4 5 6 7 8", "piece", api.OK, "chairs 1:ada 8:bob\nloans air:bob\npiece air 20\npiece ode 1 2 3 4 5 6 7 8\n"},
		{"piece ode 1 2 3 4 5 6 7 8 9", "", api.ErrForm, "chairs 1:ada 8:bob\nloans air:bob\npiece air 20\npiece ode 1 2 3 4 5 6 7 8\n"},
	} {
		if reply, e := l.Do(x.line); reply != x.reply || e != x.e {
			t.Error(x.line, reply, e)
		}
		if state := l.State(); state != x.state {
			t.Error(x.line, state)
		}
	}
}

func TestRepliesToQuestions(t *testing.T) {
	l, _ := libraryOf(t, "piece ode 0 1 2 1 0", "piece low 20 0 20", "piece air 1 3", "piece jig 1 1 3", "piece all 0 12 4 16 7 19")
	for _, x := range []struct {
		line, reply string
		e           api.Errno
	}{
		{"tones all", "tones 137", api.OK},
		{"tones nobody", "", api.ErrNone},
		{"second ode", "second 4 3 2 3 7", api.OK},
		{"second low", "", api.ErrNone},
		{"turns low", "turns 0", api.OK},
		{"near air jig", "near 0", api.OK},
		{"near jig jig", "near 0", api.OK},
		{"near air ada", "", api.ErrNone},
		{"near ada air", "", api.ErrNone},
		{"fill 12 11", "", api.ErrNone},
		{"fill 25 1", "", api.ErrArg},
		{"fill 8 2", "", api.ErrArg},
		{"beat 8 9", "", api.ErrArg},
		{"walk 0 plx", "", api.ErrForm},
		{"walk 24 plx", "", api.ErrForm},
		{"walk 24 plr", "", api.ErrArg},
		{"walk 23 p", "walk 4", api.OK},
		{"every 5", "", api.ErrNone},
		{"every 11", "", api.ErrArg},
		{"lead 0 4 7 0 5 12", "", api.ErrArg},
		{"flat 7 3", "flat no", api.OK},
		{"flat 17 3", "", api.ErrArg},
	} {
		if reply, e := l.Ask(x.line); reply != x.reply || e != x.e {
			t.Error(x, reply, e)
		}
	}
}

// These are all code bytes, worked out by hand.
func TestCodeBytes(t *testing.T) {
	want := []byte{0x00, 0x0f, 0x33, 0x3c, 0x55, 0x5a, 0x66, 0x69, 0x96, 0x99, 0xa5, 0xaa, 0xc3, 0xcc, 0xf0, 0xff}
	for d, b := range want {
		if plainCodeByte(d) != b {
			t.Error(d, plainCodeByte(d))
		}
	}
	// "back o" has the bytes 62 61 63 6b 20 6f.
	_, r := libraryOf(t, "piece o 0", "player p 1", "lend o p")
	l := must[*library.Library](t)(library.Open(r))
	before := len(r.Bytes())
	must[string](t)(l.Do("back o"))
	if written := r.Bytes()[before:]; !slices.Equal(written, []byte{0x33, 0x66, 0x0f, 0x66, 0x3c, 0x66, 0xaa, 0x66, 0x00, 0x33, 0xff, 0x66, 0xa5, 0x00}) {
		t.Error(written)
	}
}

// bothReels are a reel and a plain one to which the same is done.
type bothReels struct {
	t     *testing.T
	real  *library.Reel
	plain *plainReel
	last  string
}

func newBothReels(t *testing.T, size int) *bothReels {
	return &bothReels{t, must[*library.Reel](t)(library.NewReel(size)), &plainReel{size: size}, "NewReel"}
}

func (b *bothReels) same(e, want api.Errno) {
	b.t.Helper()
	if e != want {
		b.t.Fatal(b.last, "error", e, "not", want)
	}
	if code := b.real.Bytes(); !slices.Equal(code, b.plain.bytes) {
		b.t.Fatal(b.last, code, "not", b.plain.bytes)
	}
}

func (b *bothReels) append(list []byte) {
	b.t.Helper()
	b.last = fmt.Sprint("Append ", list)
	b.same(b.real.Append(list), b.plain.append(list))
}

func (b *bothReels) put(i int, with byte) {
	b.t.Helper()
	b.last = fmt.Sprint("Put ", i, with)
	b.same(b.real.Put(i, with), b.plain.put(i, with))
}

func (b *bothReels) cut(n int) {
	b.t.Helper()
	b.last = fmt.Sprint("Cut ", n)
	b.same(b.real.Cut(n), b.plain.cut(n))
}

func (b *bothReels) flip(i, bit int) {
	b.t.Helper()
	b.last = fmt.Sprint("Flip ", i, bit)
	b.real.Flip(i, bit)
	b.plain.flip(i, bit)
	b.same(0, 0)
}

func (b *bothReels) fuse(k int) {
	b.t.Helper()
	b.last = fmt.Sprint("Fuse ", k)
	b.real.Fuse(k)
	b.plain.fuse(k)
	b.same(0, 0)
}

func (b *bothReels) power() {
	b.t.Helper()
	b.last = "Power"
	b.real.Power()
	b.plain.power()
	b.same(0, 0)
}

// something is done to both reels.
func (b *bothReels) something(d *dice) {
	b.t.Helper()
	size := b.plain.size
	switch d.roll(12) {
	case 0, 1, 2, 3:
		list := make([]byte, d.roll(min(size, 40)+2))
		for i := range list {
			list[i] = byte(d.roll(256))
		}
		b.append(list)
	case 4, 5:
		b.put(d.roll(len(b.plain.bytes)+3)-1, byte(d.roll(256)))
	case 6:
		b.cut(d.roll(len(b.plain.bytes)+3) - 1)
	case 7, 8:
		b.flip(d.roll(len(b.plain.bytes)+3)-1, d.roll(10)-1)
	case 9:
		b.fuse(d.roll(8) - 2)
	default:
		b.power()
	}
}

func TestReelsAgainstPlainOnes(t *testing.T) {
	d := &dice{}
	for number := range 4000 {
		b := newBothReels(t, 1+number%20)
		for range 40 {
			b.something(d)
		}
	}
}

// bothLibraries are a library and a plain one on such reels.
type bothLibraries struct {
	*bothReels
	real  *library.Library
	plain *plainLibrary
}

func newBothLibraries(t *testing.T, size int) *bothLibraries {
	b := &bothLibraries{bothReels: newBothReels(t, size)}
	b.open()
	return b
}

// open takes the old libraries away only if there are new ones.
func (b *bothLibraries) open() {
	b.t.Helper()
	b.last = "Open"
	l, e := library.Open(b.bothReels.real)
	plain, want := plainOpen(b.bothReels.plain)
	if (l == nil) != (e != api.OK) {
		b.t.Fatal("Open", l, e)
	}
	if want == api.OK {
		b.real, b.plain = l, plain
	}
	b.same(e, want)
}

func (b *bothLibraries) same(e, want api.Errno) {
	b.t.Helper()
	b.bothReels.same(e, want)
	if journal := b.real.Journal(); !slices.Equal(journal, b.plain.journal) {
		b.t.Fatal(b.last, journal, "not", b.plain.journal)
	}
	if state, want := b.real.State(), b.plain.after().state(); state != want {
		b.t.Fatal(b.last, b.plain.journal, state, "not", want)
	}
}

func (b *bothLibraries) do(line string) {
	b.t.Helper()
	b.last = fmt.Sprintf("Do %q", line)
	reply, e := b.real.Do(line)
	wanted, want := b.plain.do(line)
	if reply != wanted {
		b.t.Fatal(b.last, reply, e, "not", wanted, want)
	}
	b.same(e, want)
}

func (b *bothLibraries) ask(line string) {
	b.t.Helper()
	b.last = fmt.Sprintf("Ask %q", line)
	reply, e := b.real.Ask(line)
	wanted, want := b.plain.ask(line)
	if reply != wanted {
		b.t.Fatal(b.last, reply, e, "not", wanted, want)
	}
	b.same(e, want)
}

func (b *bothLibraries) heal() {
	b.t.Helper()
	b.last = "Heal"
	count, e := b.real.Heal()
	wanted, want := b.plain.heal()
	if count != wanted {
		b.t.Fatal(b.last, count, e, "not", wanted, want)
	}
	b.same(e, want)
}

var (
	someNames   = []string{"a", "b", "ode", "march", "zzzzzzzz", "jig", "air", "p", "abcdefgh", "piece", "plr"}
	somePlayers = []string{"ada", "bob", "a", "cy", "dee", "eve", "flo", "gus", "hal", "player"}
)

// someChange returns a line that is a change, which may have an error.
func someChange(d *dice) string {
	piece, player := pick(d, someNames), pick(d, somePlayers)
	switch d.roll(12) {
	case 0, 1, 2:
		line := "piece " + piece
		most := 8
		if d.roll(3) != 0 {
			most = 3
		}
		for range 1 + d.roll(most) {
			line += fmt.Sprint(" ", d.roll(21+d.roll(2)))
		}
		return line
	case 3, 4:
		return fmt.Sprint("player ", player, " ", d.roll(10))
	case 5, 6, 7:
		return "lend " + piece + " " + player
	case 8:
		return "back " + piece
	case 9, 10:
		return fmt.Sprint("move ", player, " ", d.roll(10))
	}
	return "burn " + piece
}

// someQuestion returns a line that is a question, which may have an error.
func someQuestion(d *dice) string {
	words := strings.Fields(pick(d, plainQuestions))
	for i, word := range words {
		switch {
		case word == "N" && words[0] == "walk":
			words[i] = pick(d, []string{"p", "l", "r", "pl", "plr", "rrrrrrrr", "lprlprlp", "q", "pxp", "xp", "px"})
		case word == "N":
			words[i] = pick(d, someNames)
		case word == "#":
			words[i] = fmt.Sprint(d.roll(pick(d, []int{5, 10, 14, 30, 300, 10000})))
		}
	}
	return strings.Join(words, " ")
}

// spoilt returns a line in which something is changed; it may still be one.
func spoilt(d *dice, line string) string {
	at := d.roll(len(line))
	other := pick(d, []string{" ", " ", "a", "z", "`", "{", "A", "0", "1", "9", "/", ":", "-", "+", "\n", "\t", "\x1f", "\x7f", "~", "é", "\xff", "\x00", "_", ".", "aaaaaaaa", "0000", "1111", " 1", " a"})
	switch d.roll(3) {
	case 0:
		return line[:at] + line[at+1:]
	case 1:
		return line[:at] + other + line[at+1:]
	}
	at = d.roll(len(line) + 1)
	return line[:at] + other + line[at:]
}

// somethingElse is done to both libraries or to their reels.
func (b *bothLibraries) somethingElse(d *dice) {
	b.t.Helper()
	size := len(b.bothReels.plain.bytes)
	switch d.roll(20) {
	case 0, 1, 2, 3, 4, 5, 6, 7, 8:
		b.do(someChange(d))
	case 9:
		b.do(spoilt(d, someChange(d)))
	case 10:
		b.do(someQuestion(d))
	case 11, 12:
		b.ask(someQuestion(d))
	case 13:
		b.ask(spoilt(d, someQuestion(d)))
	case 14:
		b.ask(someChange(d))
	case 15:
		b.heal()
	case 16:
		b.open()
	case 17, 18:
		b.power()
	case 19:
		switch d.roll(6) {
		case 0:
			b.flip(d.roll(size+1), d.roll(8))
		case 1:
			b.put(d.roll(size+1), byte(d.roll(256)))
		case 2:
			b.cut(max(0, size-d.roll(4)*d.roll(20)))
		case 3:
			b.append(plainWritten(someChange(d))[d.roll(2):])
		case 4:
			b.append([]byte{byte(d.roll(256))})
		case 5:
			b.fuse(d.roll(60))
		}
	}
}

func TestLibrariesAgainstPlainOnes(t *testing.T) {
	d := &dice{1 << 20}
	for number := range 500 {
		size := 100_000
		if number%3 == 0 {
			size = 100 + d.roll(600)
		}
		b := newBothLibraries(t, size)
		for range 60 {
			b.somethingElse(d)
		}
	}
}

// A library is filled until it has eight pieces and players, and the changes go on.
func TestFullLibraries(t *testing.T) {
	d := &dice{1 << 30}
	for range 60 {
		b := newBothLibraries(t, 100_000)
		for i := range 11 {
			b.do(fmt.Sprint("piece ", someNames[i], " ", d.roll(21)))
		}
		for i := range 10 {
			b.do(fmt.Sprint("player ", somePlayers[i], " ", 1+d.roll(8)))
		}
		for range 60 {
			b.do(someChange(d))
			b.ask(someQuestion(d))
		}
		b.open()
	}
}

// badWords are words that are neither names nor numbers, and some that are only just.
var badWords = []string{"", "a", "z", "pl", "abcdefgh", "abcdefghi", "A", "aZ", "a1", "1a", "é", "`", "{", "a\n", "\x00", "0", "1", "9", "9999", "10000", "00", "01", "000", "-1", "-0", "+1", "1.", ".5", "0x1", "1e1", "1_0", "/", ":", "٣"}

var firstWords = []string{"piece", "player", "lend", "back", "move", "burn", "chairs", "loans", "tones", "second", "turns", "near", "fill", "beat", "walk", "every", "lead", "flat", "", "a", "0", "Piece", "pieces", "piec", "chair", "state"}

// All first words are tried with all lists of up to three words.
func TestForms(t *testing.T) {
	changes := []string{"piece a 0", "piece pl 5 6", "player z 1", "player a 2"}
	l, r := libraryOf(t, changes...)
	plain, _ := plainAfter(changes)
	code := r.Bytes()
	check := func(words ...string) {
		line := strings.Join(words, " ")
		wanted, want := plain.ask(line)
		if reply, e := l.Ask(line); reply != wanted || e != want {
			t.Fatalf("Ask %q: %q %d, not %q %d", line, reply, e, wanted, want)
		}
		after, _ := plainAfter(changes)
		want = after.do(line)
		if want != api.OK {
			if reply, e := l.Do(line); reply != "" || e != want {
				t.Fatalf("Do %q: %q %d, not %d", line, reply, e, want)
			}
			return
		}
		other := must[*library.Library](t)(library.Open(reelOf(t, code)))
		if reply, e := other.Do(line); reply != words[0] || e != want || other.State() != after.state() {
			t.Fatalf("Do %q: %q %d %s", line, reply, e, other.State())
		}
	}
	for _, first := range firstWords {
		check(first)
		for _, x := range badWords {
			check(first, x)
			for _, y := range badWords {
				check(first, x, y)
				for _, z := range badWords[:22] {
					check(first, x, y, z)
				}
			}
		}
	}
}

// The long lines are tried with each number of words, and with each word at each place.
func TestLongForms(t *testing.T) {
	b := newBothLibraries(t, 100_000)
	for number := range 40 {
		b.do("piece x" + strings.Repeat(" 7", number))
		b.do(fmt.Sprint("burn ", "x"))
		b.ask("lead" + strings.Repeat(" 7", number))
	}
	for _, word := range badWords {
		for number := 1; number <= 9; number++ {
			for place := range number {
				list := slices.Repeat([]string{"3"}, number)
				list[place] = word
				line := strings.Join(list, " ")
				b.do("piece y " + line)
				b.do("burn y")
				b.ask("lead " + line)
			}
		}
	}
	// No line of more than 60 bytes is a change or a question.
	for _, line := range []string{"chairs", "loans", "back a", "every 4", "piece a 1"} {
		for _, more := range []string{" ", "a", "0", " 0", " a"} {
			for number := range 70 {
				b.do(line + strings.Repeat(more, number))
				b.ask(line + strings.Repeat(more, number))
			}
		}
	}
	huge := strings.Repeat("a ", 1<<20)
	b.do(huge)
	b.ask(huge)
}

// All answers of the other layers are passed on as they are.
func TestAllQuestionsOfTheory(t *testing.T) {
	l, _ := libraryOf(t)
	plain, _ := plainAfter(nil)
	check := func(first string, numbers ...any) {
		line := strings.TrimSpace(first + " " + fmt.Sprintln(numbers...))
		wanted, want := plain.ask(line)
		if reply, e := l.Ask(line); reply != wanted || e != want {
			t.Fatalf("Ask %q: %q %d, not %q %d", line, reply, e, wanted, want)
		}
	}
	for n := range 30 {
		check("every", n)
		for k := range 30 {
			check("fill", n, k)
			check("beat", n, k)
			check("flat", n, k)
		}
		for i := range 100 {
			check("fill", n, scattered(n*100+i, 10000))
			check("flat", n, scattered(n*100+i, 10000))
			check("beat", n, scattered(n*100+i, 10000))
		}
		for _, w := range []string{"p", "l", "r", "pl", "lrp", "rrrrlllp", "pppppppp", "a", "xplr", "plrx", "plxr", "q"} {
			check("walk", n, w)
		}
	}
	d := &dice{77}
	for range 2000 {
		check("lead", d.roll(13), d.roll(12), d.roll(12), d.roll(12), d.roll(12), d.roll(12))
		check("lead", d.roll(12), d.roll(12), d.roll(12), d.roll(12), d.roll(12), d.roll(13))
	}
}

// Each question about pieces is asked of many.
func TestAllQuestionsOfPieces(t *testing.T) {
	d := &dice{99}
	for range 300 {
		b := newBothLibraries(t, 100_000)
		for _, name := range []string{"a", "b"} {
			line := "piece " + name
			for range 1 + d.roll(8) {
				line += fmt.Sprint(" ", d.roll(21))
			}
			b.do(line)
		}
		for _, line := range []string{"tones a", "tones b", "tones c", "second a", "second b", "second c", "turns a", "turns b", "turns c", "near a b", "near b a", "near a a", "near a c", "near c b"} {
			b.ask(line)
		}
	}
}

// Each byte of books is replaced by each other one.
func TestEveryByte(t *testing.T) {
	code := plainWritten("player a 1", "piece b 0 7", "lend b a", "back b")
	for i := range code {
		for other := range 256 {
			turned := slices.Clone(code)
			turned[i] = byte(other)
			r := reelOf(t, turned)
			l := must[*library.Library](t)(library.Open(r))
			want := plainBooks(turned)
			if journal := l.Journal(); !slices.Equal(journal, want) {
				t.Fatal(i, other, journal, want)
			}
			length := len(plainWritten(want...))
			if left := r.Bytes(); !slices.Equal(left, turned[:length]) {
				t.Fatal(i, other, len(left), "not", length)
			}
		}
	}
}

// Each beginning of books is opened, and each with a byte behind it.
func TestEveryBeginning(t *testing.T) {
	code := plainWritten("player a 1", "piece b 0 7", "lend b a", "move a 3", "back b", "burn b")
	for length := range len(code) + 1 {
		for _, more := range [][]byte{nil, {0}, {0xa5}, {0x33, 0x66}, {0x01}, {0x03}, {0xa5, 0x00}, plainWritten(""), plainWritten("burn b"), plainWritten("player c 7")} {
			all := slices.Concat(code[:length], more)
			r := reelOf(t, all)
			l := must[*library.Library](t)(library.Open(r))
			want := plainBooks(all)
			if journal := l.Journal(); !slices.Equal(journal, want) {
				t.Fatal(length, more, journal, want)
			}
			if left := r.Bytes(); !slices.Equal(left, all[:len(plainWritten(want...))]) {
				t.Fatal(length, more, len(left))
			}
		}
	}
}

// Books end where a change has an error after those before it, or is none.
func TestBooksWithErrors(t *testing.T) {
	for _, changes := range [][]string{
		{"piece a 0", "piece a 1", "player b 1"},
		{"piece a 0", "chairs", "player b 1"},
		{"piece a 0", "", "player b 1"},
		{"piece a 0", "piece  b 0", "player b 1"},
		{"piece a 0", "piece b 21", "player b 1"},
		{"lend a b", "piece a 0"},
		{"player b 0"},
		{"player a 1", "player b 1", "move a 2"},
		{"player a 1", "move a 1"},
		{"player a 1", "move a 2", "move a 1", "move a 9"},
		{"piece a 0", "player b 1", "lend a b", "burn a", "back a"},
		{"piece a 0", "burn a", "burn a"},
		{"piece a 0", "\xff", "burn a"},
		{"piece a 0", strings.Repeat("a", 70), "burn a"},
	} {
		code := plainWritten(changes...)
		r := reelOf(t, code)
		l := must[*library.Library](t)(library.Open(r))
		want := plainBooks(code)
		if journal := l.Journal(); !slices.Equal(journal, want) || len(journal) == len(changes) {
			t.Error(changes, journal)
		}
		if left := r.Bytes(); !slices.Equal(left, plainWritten(want...)) {
			t.Error(changes, len(left))
		}
	}
}
