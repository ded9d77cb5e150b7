package library

import (
	"slices"

	"sackbut/api"
)

const (
	maxPieces = 8
	maxChair  = 8
	maxNote   = 20
)

// state is what the changes change.
type state struct {
	pieces map[string][]int  // the parts by the pieces' names
	chairs [maxChair]string  // the names of the players, from chair 1 on; no name where nobody has the chair
	loans  map[string]string // the players by the pieces that they have
}

// changes returns, by their first words, the changes. Each of them means what is to be done, or the error for which it can't be: so it can be written before it is done.
func (s *state) changes() map[string]sentence[func()] {
	return map[string]sentence[func()]{
		"piece":  {kinds: "a0", more: "0000000", means: s.piece},
		"player": {kinds: "a0", means: s.player},
		"lend":   {kinds: "aa", means: s.lend},
		"back":   {kinds: "a", means: s.back},
		"move":   {kinds: "a0", means: s.move},
		"burn":   {kinds: "a", means: s.burn},
	}
}

func (s *state) change(line string) (func(), api.Errno) {
	return meaning(line, s.changes())
}

func (s *state) piece(w words) (func(), api.Errno) {
	name, part := w.names[0], w.numbers
	switch {
	case s.hasPiece(name):
		return nil, api.ErrState
	case slices.Max(part) > maxNote:
		return nil, api.ErrArg
	case len(s.pieces) == maxPieces:
		return nil, api.ErrFull
	}
	return func() { s.pieces[name] = part }, api.OK
}

func (s *state) player(w words) (func(), api.Errno) {
	name, chair := w.names[0], w.numbers[0]
	switch {
	case s.chairOf(name) != 0 || s.isTaken(chair):
		return nil, api.ErrState
	case !isChair(chair):
		return nil, api.ErrArg
	}
	return func() { s.chairs[chair-1] = name }, api.OK
}

func (s *state) lend(w words) (func(), api.Errno) {
	piece, player := w.names[0], w.names[1]
	switch {
	case !s.hasPiece(piece) || s.chairOf(player) == 0:
		return nil, api.ErrNone
	case s.isLent(piece):
		return nil, api.ErrState
	}
	return func() { s.loans[piece] = player }, api.OK
}

func (s *state) back(w words) (func(), api.Errno) {
	piece := w.names[0]
	switch {
	case !s.hasPiece(piece):
		return nil, api.ErrNone
	case !s.isLent(piece):
		return nil, api.ErrState
	}
	return func() { delete(s.loans, piece) }, api.OK
}

func (s *state) move(w words) (func(), api.Errno) {
	player, chair := w.names[0], w.numbers[0]
	old := s.chairOf(player)
	switch {
	case old == 0:
		return nil, api.ErrNone
	case !isChair(chair):
		return nil, api.ErrArg
	case chair == old:
		return nil, api.ErrState
	}
	return func() { s.chairs[old-1], s.chairs[chair-1] = s.chairs[chair-1], player }, api.OK
}

func (s *state) burn(w words) (func(), api.Errno) {
	piece := w.names[0]
	switch {
	case !s.hasPiece(piece):
		return nil, api.ErrNone
	case s.isLent(piece):
		return nil, api.ErrState
	}
	return func() { delete(s.pieces, piece) }, api.OK
}

func (s *state) hasPiece(name string) bool {
	_, ok := s.pieces[name]
	return ok
}

func (s *state) isLent(piece string) bool {
	_, ok := s.loans[piece]
	return ok
}

// chairOf returns the chair of a player, and 0 if there is no such player.
func (s *state) chairOf(name string) int {
	return slices.Index(s.chairs[:], name) + 1
}

func isChair(chair int) bool {
	return chair >= 1 && chair <= maxChair
}

func (s *state) isTaken(chair int) bool {
	return isChair(chair) && s.chairs[chair-1] != ""
}
