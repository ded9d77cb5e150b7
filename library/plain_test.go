package library_test

import (
	"fmt"
	"maps"
	"math"
	"regexp"
	"slices"
	"strconv"
	"strings"

	"sackbut/api"
	"sackbut/canon"
	"sackbut/chords"
	"sackbut/duets"
	"sackbut/edits"
	"sackbut/even"
	"sackbut/rows"
	"sackbut/triads"
	"sackbut/voices"
	"sackbut/wheels"
)

// The functions of this file do what the chapter says in the plainest way, so that the tests have something to hold the package against. They call nothing of it.

// odd are numbers at and beyond the borders of what arguments may be.
var odd = []int{math.MinInt, math.MinInt + 1, math.MinInt32, -1 << 16, -256, -10, -9, -8, -7, -3, -2, -1, 0, 1, 2, 3, 6, 7, 8, 9, 10, 15, 16, 31, 32, 63, 64, 65, 255, 256, 257, 99_999, 100_000, 100_001, 1 << 20, math.MaxInt32, 1 << 32, 1<<32 + 1, 1 << 62, math.MaxInt - 1, math.MaxInt}

// scattered returns a number below total that the next one tells nothing of: the tests take some of many by it.
func scattered(i, total int) int {
	mixed := (uint64(i) + 1) * 0x9E3779B97F4A7C15
	mixed ^= mixed >> 29
	mixed *= 0xBF58476D1CE4E5B9
	mixed ^= mixed >> 32
	return int(mixed % uint64(total))
}

// dice are rolled with scattered numbers.
type dice struct{ rolled int }

func (d *dice) roll(total int) int {
	d.rolled++
	return scattered(d.rolled, total)
}

func pick[T any](d *dice, list []T) T {
	return list[d.roll(len(list))]
}

// plainReel is a reel without a mark that it was made.
type plainReel struct {
	size  int
	bytes []byte
	off   bool
	fused bool
	left  int
}

// spends returns ErrPower, and lets the power go off, if the fuse is spent.
func (r *plainReel) spends() api.Errno {
	if r.fused && r.left == 0 {
		r.off = true
		return api.ErrPower
	}
	return api.OK
}

func (r *plainReel) append(b []byte) api.Errno {
	if r.off {
		return api.ErrPower
	}
	for i := range b {
		if e := r.spends(); e != api.OK {
			return e
		}
		if len(r.bytes) == r.size {
			return api.ErrFull
		}
		r.bytes = append(r.bytes, b[i])
		r.left--
	}
	return api.OK
}

func (r *plainReel) put(i int, b byte) api.Errno {
	if r.off {
		return api.ErrPower
	}
	if i < 0 || i >= len(r.bytes) {
		return api.ErrArg
	}
	if e := r.spends(); e != api.OK {
		return e
	}
	r.bytes[i] = b
	r.left--
	return api.OK
}

func (r *plainReel) cut(n int) api.Errno {
	if r.off {
		return api.ErrPower
	}
	if n < 0 || n > len(r.bytes) {
		return api.ErrArg
	}
	r.bytes = slices.Clone(r.bytes[:n])
	return api.OK
}

func (r *plainReel) flip(i, bit int) {
	if i >= 0 && i < len(r.bytes) && bit >= 0 && bit <= 7 {
		r.bytes[i] ^= byte(math.Pow(2, float64(bit)))
	}
}

func (r *plainReel) fuse(k int) {
	r.fused, r.left = k >= 0, k
}

func (r *plainReel) power() {
	r.off, r.fused = false, false
}

// plainCodeByte sets the bits one by one.
func plainCodeByte(d int) byte {
	var bit [8]int
	bit[3], bit[5], bit[6], bit[7] = d%2, d/2%2, d/4%2, d/8%2
	bit[1] = (bit[3] + bit[5] + bit[7]) % 2
	bit[2] = (bit[3] + bit[6] + bit[7]) % 2
	bit[4] = (bit[5] + bit[6] + bit[7]) % 2
	bit[0] = (bit[1] + bit[2] + bit[3] + bit[4] + bit[5] + bit[6] + bit[7]) % 2
	b := 0
	for i := 7; i >= 0; i-- {
		b = 2*b + bit[i]
	}
	return byte(b)
}

// plainApart returns in how many bits two bytes differ.
func plainApart(a, b byte) int {
	count := 0
	for range 8 {
		if a%2 != b%2 {
			count++
		}
		a, b = a/2, b/2
	}
	return count
}

// plainReads returns all numbers as which a byte reads.
func plainReads(b byte) []int {
	var list []int
	for d := range 16 {
		if plainApart(b, plainCodeByte(d)) < 2 {
			list = append(list, d)
		}
	}
	return list
}

// plainWritten returns what is written of changes.
func plainWritten(changes ...string) []byte {
	var code []byte
	for _, change := range changes {
		for _, b := range []byte(change + "\n") {
			code = append(code, plainCodeByte(int(b)%16), plainCodeByte(int(b)/16))
		}
	}
	return code
}

// plainBooks returns the books of a reel with some bytes: the longest sequence of changes of all that it begins with.
func plainBooks(code []byte) []string {
	var books []string
	text := ""
	for i := 0; i+1 < len(code); i += 2 {
		low, high := plainReads(code[i]), plainReads(code[i+1])
		if len(low) == 0 || len(high) == 0 {
			return books
		}
		if next := byte(low[0] + 16*high[0]); next != '\n' {
			text += string([]byte{next})
			continue
		}
		longer := append(slices.Clone(books), text)
		if _, e := plainAfter(longer); e != api.OK {
			return books
		}
		books, text = longer, ""
	}
	return books
}

// plainState is what the changes change. Chairs and loans are known by players and pieces.
type plainState struct {
	parts  map[string][]int
	chairs map[string]int
	loans  map[string]string
}

// plainAfter returns the state after changes, which are done one behind the other, and the error of the first one that has one.
func plainAfter(changes []string) (*plainState, api.Errno) {
	s := &plainState{map[string][]int{}, map[string]int{}, map[string]string{}}
	for _, change := range changes {
		if e := s.do(change); e != api.OK {
			return nil, e
		}
	}
	return s, api.OK
}

const (
	plainName   = `([a-z]{1,8})`
	plainNumber = `(0|[1-9][0-9]{0,3})`
)

var changePatterns = map[string]*regexp.Regexp{
	"piece":  plainPattern("piece N .", `((?: (?:0|[1-9][0-9]{0,3})){1,8})`),
	"player": plainPattern("player N #", ""),
	"lend":   plainPattern("lend N N", ""),
	"back":   plainPattern("back N", ""),
	"move":   plainPattern("move N #", ""),
	"burn":   plainPattern("burn N", ""),
}

// plainPattern has N for a name, # for a number, and " ." for another pattern.
func plainPattern(line, other string) *regexp.Regexp {
	line = strings.NewReplacer("N", plainName, "#", plainNumber, " .", other).Replace(line)
	return regexp.MustCompile(`\A` + line + `\z`)
}

// plainChange returns what a change says: its first word, its names, and its numbers; or nothing, if the line is no change.
func plainChange(line string) (first string, names []string, numbers []int) {
	word, _, _ := strings.Cut(line, " ")
	pattern := changePatterns[word]
	if pattern == nil || !pattern.MatchString(line) {
		return "", nil, nil
	}
	return plainParts(line)
}

func plainParts(line string) (first string, names []string, numbers []int) {
	for i, word := range strings.Fields(line) {
		number, err := strconv.Atoi(word)
		switch {
		case i == 0:
			first = word
		case err == nil:
			numbers = append(numbers, number)
		default:
			names = append(names, word)
		}
	}
	return first, names, numbers
}

// do makes a change if it has no error.
func (s *plainState) do(line string) api.Errno {
	first, names, numbers := plainChange(line)
	switch first {
	case "piece":
		return s.doPiece(names[0], numbers)
	case "player":
		return s.doPlayer(names[0], numbers[0])
	case "lend":
		return s.doLend(names[0], names[1])
	case "back":
		return s.doBack(names[0])
	case "move":
		return s.doMove(names[0], numbers[0])
	case "burn":
		return s.doBurn(names[0])
	}
	return api.ErrForm
}

func (s *plainState) doPiece(name string, notes []int) api.Errno {
	if _, is := s.parts[name]; is {
		return api.ErrState
	}
	for _, note := range notes {
		if note > 20 {
			return api.ErrArg
		}
	}
	if len(s.parts) >= 8 {
		return api.ErrFull
	}
	s.parts[name] = notes
	return api.OK
}

// playerAt returns who has a chair; nobody has no name.
func (s *plainState) playerAt(chair int) string {
	for name, other := range s.chairs {
		if other == chair {
			return name
		}
	}
	return ""
}

func (s *plainState) doPlayer(name string, chair int) api.Errno {
	if _, is := s.chairs[name]; is {
		return api.ErrState
	}
	if s.playerAt(chair) != "" {
		return api.ErrState
	}
	if chair < 1 || chair > 8 {
		return api.ErrArg
	}
	s.chairs[name] = chair
	return api.OK
}

func (s *plainState) doLend(piece, player string) api.Errno {
	_, isPiece := s.parts[piece]
	_, isPlayer := s.chairs[player]
	if !isPiece || !isPlayer {
		return api.ErrNone
	}
	if _, is := s.loans[piece]; is {
		return api.ErrState
	}
	s.loans[piece] = player
	return api.OK
}

func (s *plainState) doBack(piece string) api.Errno {
	if _, is := s.parts[piece]; !is {
		return api.ErrNone
	}
	if _, is := s.loans[piece]; !is {
		return api.ErrState
	}
	delete(s.loans, piece)
	return api.OK
}

func (s *plainState) doMove(name string, chair int) api.Errno {
	old, is := s.chairs[name]
	if !is {
		return api.ErrNone
	}
	if chair < 1 || chair > 8 {
		return api.ErrArg
	}
	if old == chair {
		return api.ErrState
	}
	if other := s.playerAt(chair); other != "" {
		s.chairs[other] = old
	}
	s.chairs[name] = chair
	return api.OK
}

func (s *plainState) doBurn(piece string) api.Errno {
	if _, is := s.parts[piece]; !is {
		return api.ErrNone
	}
	if _, is := s.loans[piece]; is {
		return api.ErrState
	}
	delete(s.parts, piece)
	return api.OK
}

// plainQuestions has N for each name and # for each number.
var plainQuestions = []string{"chairs", "loans", "tones N", "second N", "turns N", "near N N", "fill # #", "beat # #", "walk # N", "every #", "lead # # # # # #", "flat # #"}

var questionPatterns = func() []*regexp.Regexp {
	var list []*regexp.Regexp
	for _, form := range plainQuestions {
		list = append(list, plainPattern(form, ""))
	}
	return list
}()

// told returns a reply, or an error without one.
func told(first string, e api.Errno, others ...any) (string, api.Errno) {
	if e != api.OK {
		return "", e
	}
	for _, other := range others {
		first += " " + strings.Trim(fmt.Sprint(other), "[]")
	}
	return first, api.OK
}

// ask answers a question.
func (s *plainState) ask(line string) (string, api.Errno) {
	if !slices.ContainsFunc(questionPatterns, func(p *regexp.Regexp) bool { return p.MatchString(line) }) {
		return "", api.ErrForm
	}
	first, names, numbers := plainParts(line)
	switch first {
	case "chairs":
		return s.askChairs(), api.OK
	case "loans":
		return s.askLoans(), api.OK
	case "tones", "second", "turns", "near":
		return s.askPieces(first, names)
	}
	return plainTheory(first, names, numbers)
}

func (s *plainState) askChairs() string {
	reply := "chairs"
	for chair := 1; chair <= 8; chair++ {
		if name := s.playerAt(chair); name != "" {
			reply += fmt.Sprintf(" %d:%s", chair, name)
		}
	}
	return reply
}

func (s *plainState) askLoans() string {
	reply := "loans"
	for _, piece := range slices.Sorted(maps.Keys(s.loans)) {
		reply += fmt.Sprintf(" %s:%s", piece, s.loans[piece])
	}
	return reply
}

// askPieces answers a question about pieces.
func (s *plainState) askPieces(first string, names []string) (string, api.Errno) {
	var parts [][]int
	for _, name := range names {
		if s.parts[name] == nil {
			return "", api.ErrNone
		}
		parts = append(parts, s.parts[name])
	}
	switch first {
	case "tones":
		set := map[int]bool{}
		for _, note := range parts[0] {
			set[note%12] = true
		}
		chord := 0
		for tone := range set {
			chord += 1 << tone
		}
		prime, e := chords.Prime(12, chord)
		return told(first, e, prime)
	case "second":
		best, e := duets.Best(parts[0])
		return told(first, e, best)
	case "turns":
		count, e := duets.Count(parts[0])
		return told(first, e, count)
	}
	cost, e := edits.Over(parts[0], parts[1])
	return told(first, e, cost)
}

// plainTheory answers a question that is about no piece or player.
func plainTheory(first string, names []string, numbers []int) (string, api.Errno) {
	switch first {
	case "fill":
		partner, e := canon.Partner(numbers[0], numbers[1])
		return told(first, e, partner)
	case "beat":
		strokes, e := even.Strokes(numbers[0], numbers[1])
		return told(first, e, strokes)
	case "walk":
		steps := ""
		for _, letter := range names[0] {
			step, is := map[rune]string{'p': "P", 'l': "L", 'r': "R"}[letter]
			if !is {
				return "", api.ErrForm
			}
			steps += step
		}
		triad, e := triads.Walk(triads.Kind{N: 12, A: 4, B: 7}, numbers[0], steps)
		return told(first, e, triad)
	case "every":
		row, e := rows.First(numbers[0])
		return told(first, e, row)
	case "lead":
		cost, e := voices.Cost(12, numbers[0:3], numbers[3:6])
		return told(first, e, cost)
	}
	flat, e := wheels.Flat(numbers[0], numbers[1])
	return told(first, e, map[bool]string{true: "yes", false: "no"}[flat])
}

// state returns the state as a string.
func (s *plainState) state() string {
	text := s.askChairs() + "\n" + s.askLoans() + "\n"
	for _, name := range slices.Sorted(maps.Keys(s.parts)) {
		text += "piece " + name
		for _, note := range s.parts[name] {
			text += " " + strconv.Itoa(note)
		}
		text += "\n"
	}
	return text
}

// plainLibrary has nothing but its reel and its journal: it does all of the journal anew whenever it is asked.
type plainLibrary struct {
	reel    *plainReel
	journal []string
}

func plainOpen(r *plainReel) (*plainLibrary, api.Errno) {
	if r.off {
		return nil, api.ErrPower
	}
	books := plainBooks(r.bytes)
	r.cut(len(plainWritten(books...)))
	return &plainLibrary{r, books}, api.OK
}

func (l *plainLibrary) after() *plainState {
	s, _ := plainAfter(l.journal)
	return s
}

func (l *plainLibrary) do(line string) (string, api.Errno) {
	if e := l.after().do(line); e != api.OK {
		return "", e
	}
	if l.reel.off {
		return "", api.ErrPower
	}
	written := len(plainWritten(l.journal...))
	if len(l.reel.bytes) < written {
		return "", api.ErrState
	}
	l.reel.cut(written)
	code := plainWritten(line)
	if written+len(code) > l.reel.size {
		return "", api.ErrFull
	}
	if e := l.reel.append(code); e != api.OK {
		return "", e
	}
	l.journal = append(l.journal, line)
	return strings.Fields(line)[0], api.OK
}

func (l *plainLibrary) ask(line string) (string, api.Errno) {
	return l.after().ask(line)
}

func (l *plainLibrary) heal() (int, api.Errno) {
	if l.reel.off {
		return 0, api.ErrPower
	}
	code := plainWritten(l.journal...)
	if len(l.reel.bytes) < len(code) {
		return 0, api.ErrState
	}
	count := 0
	for i := range code {
		if l.reel.bytes[i] != code[i] {
			if e := l.reel.put(i, code[i]); e != api.OK {
				return 0, e
			}
			count++
		}
	}
	return count, api.OK
}
