package library

import (
	"maps"
	"slices"
	"strconv"
	"strings"

	"sackbut/api"
	"sackbut/canon"
	"sackbut/chords"
	"sackbut/duets"
	"sackbut/edits"
	"sackbut/even"
	"sackbut/rows"
	"sackbut/triads"
	"sackbut/voices"
	"sackbut/wheels"
)

const scale = 12 // tones of the circle on which pieces and walks are

// questions returns, by their first words, the questions. Each of them means the words of its reply behind the first one, which is its own.
func (s *state) questions() map[string]sentence[[]string] {
	return map[string]sentence[[]string]{
		"chairs": {means: s.chairsTaken},
		"loans":  {means: s.piecesLent},
		"tones":  {kinds: "a", means: s.ofPieces(tones)},
		"second": {kinds: "a", means: s.ofPieces(second)},
		"turns":  {kinds: "a", means: s.ofPieces(turns)},
		"near":   {kinds: "aa", means: s.ofPieces(near)},
		"fill":   {kinds: "00", means: fill},
		"beat":   {kinds: "00", means: beat},
		"walk":   {kinds: "0a", means: walk},
		"every":  {kinds: "0", means: every},
		"lead":   {kinds: "000000", means: lead},
		"flat":   {kinds: "00", means: flat},
	}
}

func (s *state) reply(line string) (string, api.Errno) {
	told, e := meaning(line, s.questions())
	if e != api.OK {
		return "", e
	}
	return joined(firstWord(line), told), api.OK
}

func (s *state) chairsTaken(words) ([]string, api.Errno) {
	var told []string
	for i, name := range s.chairs {
		if name != "" {
			told = append(told, strconv.Itoa(i+1)+":"+name)
		}
	}
	return told, api.OK
}

func (s *state) piecesLent(words) ([]string, api.Errno) {
	var told []string
	for _, piece := range slices.Sorted(maps.Keys(s.loans)) {
		told = append(told, piece+":"+s.loans[piece])
	}
	return told, api.OK
}

// ofPieces makes a question about the parts of the pieces that are named out of one about parts.
func (s *state) ofPieces(means func(parts [][]int) ([]string, api.Errno)) func(words) ([]string, api.Errno) {
	return func(w words) ([]string, api.Errno) {
		var parts [][]int
		for _, name := range w.names {
			if !s.hasPiece(name) {
				return nil, api.ErrNone
			}
			parts = append(parts, s.pieces[name])
		}
		return means(parts)
	}
}

func tones(parts [][]int) ([]string, api.Errno) {
	chord := 0
	for _, note := range parts[0] {
		chord |= 1 << (note % scale)
	}
	prime, e := chords.Prime(scale, chord)
	return numerals(prime), e
}

func second(parts [][]int) ([]string, api.Errno) {
	best, e := duets.Best(parts[0])
	return numerals(best...), e
}

func turns(parts [][]int) ([]string, api.Errno) {
	count, e := duets.Count(parts[0])
	return numerals(count), e
}

func near(parts [][]int) ([]string, api.Errno) {
	cost, e := edits.Over(parts[0], parts[1])
	return numerals(cost), e
}

func fill(w words) ([]string, api.Errno) {
	partner, e := canon.Partner(w.numbers[0], w.numbers[1])
	return numerals(partner), e
}

func beat(w words) ([]string, api.Errno) {
	strokes, e := even.Strokes(w.numbers[0], w.numbers[1])
	return numerals(strokes...), e
}

func walk(w words) ([]string, api.Errno) {
	triad, steps := w.numbers[0], w.names[0]
	if !isOf(steps, "plr") {
		return nil, api.ErrForm
	}
	to, e := triads.Walk(triads.Kind{N: scale, A: 4, B: 7}, triad, strings.ToUpper(steps))
	return numerals(to), e
}

func every(w words) ([]string, api.Errno) {
	row, e := rows.First(w.numbers[0])
	return numerals(row...), e
}

func lead(w words) ([]string, api.Errno) {
	cost, e := voices.Cost(scale, w.numbers[:3], w.numbers[3:])
	return numerals(cost), e
}

func flat(w words) ([]string, api.Errno) {
	is, e := wheels.Flat(w.numbers[0], w.numbers[1])
	if is {
		return []string{"yes"}, e
	}
	return []string{"no"}, e
}
