package library

import (
	"slices"

	"sackbut/api"
)

const maxSize = 100_000

// Reel is bytes whose bits may turn over.
type Reel struct {
	size  int
	bytes []byte
	on    bool
	fuse  int   // how many bytes may still be appended or put; no fuse below 0
	self  *Reel // itself if NewReel made it, and another one in a copy
}

// NewReel returns an empty reel.
func NewReel(size int) (*Reel, api.Errno) {
	if size < 1 || size > maxSize {
		return nil, api.ErrArg
	}
	r := &Reel{size: size}
	r.self = r
	r.Power()
	return r, api.OK
}

// Append appends bytes.
func (r *Reel) Append(b []byte) api.Errno {
	if !r.isMade() {
		return api.ErrNil
	}
	if !r.on {
		return api.ErrPower
	}
	for _, next := range b {
		if r.fails() {
			return api.ErrPower
		}
		if r.room() == 0 {
			return api.ErrFull
		}
		r.bytes = append(r.bytes, next)
		r.burn()
	}
	return api.OK
}

// Put writes a byte anew.
func (r *Reel) Put(i int, b byte) api.Errno {
	if !r.isMade() {
		return api.ErrNil
	}
	if !r.on {
		return api.ErrPower
	}
	if !r.has(i) {
		return api.ErrArg
	}
	if r.fails() {
		return api.ErrPower
	}
	r.bytes[i] = b
	r.burn()
	return api.OK
}

// Cut keeps the first n bytes.
func (r *Reel) Cut(n int) api.Errno {
	if !r.isMade() {
		return api.ErrNil
	}
	if !r.on {
		return api.ErrPower
	}
	if n < 0 || n > len(r.bytes) {
		return api.ErrArg
	}
	r.bytes = r.bytes[:n]
	return api.OK
}

// Bytes returns all bytes.
func (r *Reel) Bytes() []byte {
	if !r.isMade() {
		return nil
	}
	return slices.Clone(r.bytes)
}

// Flip turns a bit over.
func (r *Reel) Flip(i, bit int) {
	if r.isMade() && r.has(i) && bit >= 0 && bit < 8 {
		r.bytes[i] ^= 1 << bit
	}
}

// Fuse lets the power go off after k bytes.
func (r *Reel) Fuse(k int) {
	if r.isMade() {
		r.fuse = k
	}
}

// Power turns the power on.
func (r *Reel) Power() {
	if r.isMade() {
		r.on, r.fuse = true, -1
	}
}

func (r *Reel) isMade() bool {
	return r != nil && r.self == r
}

func (r *Reel) has(i int) bool {
	return i >= 0 && i < len(r.bytes)
}

func (r *Reel) room() int {
	return r.size - len(r.bytes)
}

// fails lets the power go off before a byte if the fuse is spent, and reports whether it did.
func (r *Reel) fails() bool {
	if r.fuse == 0 {
		r.on = false
	}
	return !r.on
}

func (r *Reel) burn() {
	if r.fuse > 0 {
		r.fuse--
	}
}
