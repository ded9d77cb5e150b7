package library_test

import (
	"slices"
	"strings"
	"testing"

	"sackbut/api"
	"sackbut/library"
)

// expect says which error a call had to give, and that an error comes with zero values only.
func expect(t *testing.T, name string, want, e api.Errno, zero bool, arguments ...any) {
	t.Helper()
	if e != want {
		t.Fatal(name, arguments, "error", e, "not", want)
	}
	if e != api.OK && !zero {
		t.Fatal(name, arguments, "a result besides the error", e)
	}
}

// checkNoReel calls all methods of a reel that is none, with good arguments and bad ones.
func checkNoReel(t *testing.T, r *library.Reel) {
	t.Helper()
	r.Power()
	r.Fuse(5)
	for _, i := range []int{-1, 0, 1} {
		expect(t, "Append", api.ErrNil, r.Append(make([]byte, max(i, 0))), true, i)
		expect(t, "Put", api.ErrNil, r.Put(i, 1), true, i)
		expect(t, "Cut", api.ErrNil, r.Cut(i), true, i)
		r.Flip(i, i)
	}
	expect(t, "Append", api.ErrNil, r.Append(nil), true)
	r.Fuse(-1)
	r.Power()
	if b := r.Bytes(); len(b) != 0 {
		t.Fatal("Bytes", b)
	}
	l, e := library.Open(r)
	expect(t, "Open", api.ErrNil, e, l == nil)
}

// checkNoLibrary calls all methods of a library that is none.
func checkNoLibrary(t *testing.T, l *library.Library) {
	t.Helper()
	for _, line := range []string{"", "chairs", "piece a 0", "burn a", "no such line"} {
		reply, e := l.Do(line)
		expect(t, "Do", api.ErrNil, e, reply == "", line)
		reply, e = l.Ask(line)
		expect(t, "Ask", api.ErrNil, e, reply == "", line)
	}
	count, e := l.Heal()
	expect(t, "Heal", api.ErrNil, e, count == 0)
	if journal, state := l.Journal(), l.State(); journal != nil || state != "" {
		t.Fatal(journal, state)
	}
}

// ErrNil precedes all other errors (Rule 5).
func TestNoObjects(t *testing.T) {
	checkNoReel(t, nil)
	checkNoReel(t, &library.Reel{})
	checkNoLibrary(t, nil)
	checkNoLibrary(t, &library.Library{})
}

// A copy is nothing that a function returned, and what is done to it does nothing to what it was made of.
func TestCopies(t *testing.T) {
	l, r := libraryOf(t, long()...)
	code, state := r.Bytes(), l.State()
	reel, copied := *r, *l
	if e := (&reel).Append(nil); e != api.ErrNil {
		t.Error(e)
	}
	(&reel).Flip(0, 0)
	(&reel).Cut(0)
	if b := (&reel).Bytes(); b != nil {
		t.Error(b)
	}
	checkNoLibrary(t, &copied)
	if opened, e := library.Open(&reel); opened != nil || e != api.ErrNil {
		t.Error(opened, e)
	}
	r.Fuse(0)
	(&reel).Power()
	if left := r.Bytes(); !slices.Equal(left, code) || l.State() != state || !slices.Equal(l.Journal(), long()) {
		t.Error(len(left), l.State())
	}
	if reply, e := l.Do("player oo 7"); reply != "" || e != api.ErrPower {
		t.Error("the fuse", reply, e)
	}
	r.Power()
	must[string](t)(l.Do("player oo 7"))
}

// A library whose reel is overwritten still panics nowhere.
func TestLostReel(t *testing.T) {
	l, r := libraryOf(t, long()...)
	state := l.State()
	*r = library.Reel{}
	reply, e := l.Do("player oo 7")
	expect(t, "Do", api.ErrPower, e, reply == "")
	count, e := l.Heal()
	expect(t, "Heal", api.ErrPower, e, count == 0)
	reply, e = l.Ask("loans")
	expect(t, "Ask", api.OK, e, false)
	if !strings.Contains(state, reply+"\n") || l.State() != state || !slices.Equal(l.Journal(), long()) {
		t.Error(reply, l.State())
	}
}

func TestOddSizes(t *testing.T) {
	for _, size := range odd {
		r, e := library.NewReel(size)
		want := api.ErrArg
		if size >= 1 && size <= 100_000 {
			want = api.OK
		}
		expect(t, "NewReel", want, e, r == nil, size)
		if e == api.OK && len(r.Bytes()) != 0 {
			t.Fatal(size, r.Bytes())
		}
	}
}

func TestOddIndices(t *testing.T) {
	for _, length := range []int{0, 1, 2, 8, 9, 64, 256} {
		for _, i := range odd {
			b := newBothReels(t, 256)
			b.append(make([]byte, length))
			b.put(i, 77)
			for _, bit := range odd {
				b.flip(i, bit)
			}
			for bit := range 8 {
				b.flip(i, bit)
			}
			b.cut(i)
			b.append([]byte{1})
		}
	}
}

func TestOddFuses(t *testing.T) {
	for _, k := range odd {
		b := newBothReels(t, 400)
		b.fuse(k)
		for range 20 {
			b.append([]byte{1, 2, 3, 4, 5, 6, 7, 8, 9, 10})
		}
		b.put(0, 3)
		b.fuse(k)
		b.put(1, 4)
		b.power()
		b.append([]byte{11})
	}
}

// The errors of Do come in their order: the line's, that of what it says, no power, too few bytes, and no room.
func TestOrderOfErrors(t *testing.T) {
	for cut := range 2 {
		for off := range 2 {
			for full := range 2 {
				size := len(plainWritten("piece a 0"))
				if full == 0 {
					size += 100
				}
				b := newBothLibraries(t, size)
				b.do("piece a 0")
				if cut == 1 {
					b.cut(size % 100 / 2)
				}
				if off == 1 {
					b.fuse(0)
					b.append([]byte{1})
				}
				for _, line := range []string{"piece", "chairs", "piece a 0", "piece a 21", "piece b 21", "back a", "back b", "lend a x", "player x 9", "piece b 0"} {
					b.do(line)
					b.ask(line)
				}
				b.ask("tones a")
				b.heal()
				b.open()
			}
		}
	}
}

// The errors of changes come in the order of the table.
func TestOrderOfErrorsOfChanges(t *testing.T) {
	var changes []string
	for i := range 8 {
		changes = append(changes, "piece "+someNames[i]+" 0")
	}
	l, _ := libraryOf(t, append(changes, "player ada 1", "lend a ada")...)
	for _, x := range []struct {
		line string
		e    api.Errno
	}{
		{"piece a 21", api.ErrState},
		{"piece new 21", api.ErrArg},
		{"piece new 0 0 0 0 0 0 0 9999", api.ErrArg},
		{"piece new 20", api.ErrFull},
		{"piece new 20 1 1 1 1 1 1 1 1", api.ErrForm},
		{"piece new", api.ErrForm},
		{"player ada 0", api.ErrState},
		{"player ada 9", api.ErrState},
		{"player ada 1", api.ErrState},
		{"player bob 1", api.ErrState},
		{"player bob 0", api.ErrArg},
		{"player bob 9", api.ErrArg},
		{"player bob 9999", api.ErrArg},
		{"lend a bob", api.ErrNone},
		{"lend new ada", api.ErrNone},
		{"lend a ada", api.ErrState},
		{"move bob 9", api.ErrNone},
		{"move bob 1", api.ErrNone},
		{"move ada 9", api.ErrArg},
		{"move ada 0", api.ErrArg},
		{"move ada 1", api.ErrState},
		{"back new", api.ErrNone},
		{"back b", api.ErrState},
		{"burn new", api.ErrNone},
		{"burn a", api.ErrState},
	} {
		state := l.State()
		reply, e := l.Do(x.line)
		expect(t, "Do", x.e, e, reply == "", x.line)
		if l.State() != state || len(l.Journal()) != 10 {
			t.Fatal(x.line, l.State())
		}
	}
}

// Without an effect means that nothing is written, either (Rule 3).
func TestErrorsWriteNothing(t *testing.T) {
	l, r := libraryOf(t, "piece a 0", "player b 1")
	keep(t, r.Append([]byte{1, 2, 3}))
	code := r.Bytes()
	for _, line := range []string{"", "chairs", "piece a 0", "piece c 21", "lend a c", "back a", "move b 9", "burn c", "player b 2"} {
		if _, e := l.Do(line); e == api.OK {
			t.Fatal(line)
		}
		l.Ask(line)
		if left := r.Bytes(); !slices.Equal(left, code) {
			t.Fatal(line, left)
		}
	}
}

// No argument is changed or kept, and no result shares memory with an object (Rule 4).
func TestMemoryIsNotShared(t *testing.T) {
	all := append(plainWritten(long()...), slices.Repeat([]byte{77}, 20)...)
	b := all[:len(all)-20]
	kept := slices.Clone(all)
	r := must[*library.Reel](t)(library.NewReel(100_000))
	keep(t, r.Append(b))
	if !slices.Equal(all, kept) {
		t.Fatal("the argument was changed")
	}
	spoil(all)
	l := must[*library.Library](t)(library.Open(r))
	state := l.State()
	spoil(r.Bytes())
	spoilStrings(l.Journal())
	keep(t, r.Append([]byte{1}))
	must[string](t)(l.Do("player oo 7"))
	must[string](t)(l.Do("piece oo 7"))
	spoil(r.Bytes())
	spoilStrings(l.Journal())
	want := append(long(), "player oo 7", "piece oo 7")
	if !slices.Equal(l.Journal(), want) || !slices.Equal(r.Bytes(), plainWritten(want...)) || l.State() == state {
		t.Error(l.Journal())
	}
	again := must[*library.Library](t)(library.Open(r))
	if again.State() != l.State() {
		t.Error(again.State())
	}
}

// spoil overwrites a result, and what memory is behind it.
func spoil(list []byte) {
	for i := range list[:cap(list)] {
		list[:cap(list)][i] = 0xee
	}
}

func spoilStrings(list []string) {
	for i := range list[:cap(list)] {
		list[:cap(list)][i] = "spoilt"
	}
}

// Nil and empty bytes are the same (Rule 4).
func TestNilAndEmpty(t *testing.T) {
	b := newBothReels(t, 1)
	b.append(nil)
	b.append([]byte{})
	b.append([]byte{1})
	b.append(nil)
	b.append([]byte{})
	b.fuse(0)
	b.append(nil)
	b.append([]byte{})
	b.append([]byte{1})
	b.append(nil)
	b.append([]byte{})
}

// The same calls give the same results (Rule 2).
func TestSameAgain(t *testing.T) {
	changes := []string{"piece h 1", "piece g 1", "piece f 1", "piece e 1", "piece d 1", "piece c 1", "piece b 1", "piece a 1", "player z 8", "player y 7", "player x 1", "lend c x", "lend a x", "lend h y", "lend b z"}
	l, _ := libraryOf(t, changes...)
	state, replies := l.State(), repliesOf(t, l)
	for range 50 {
		other, _ := libraryOf(t, changes...)
		if other.State() != state || l.State() != state || !slices.Equal(repliesOf(t, other), replies) {
			t.Fatal(other.State(), state)
		}
	}
}
