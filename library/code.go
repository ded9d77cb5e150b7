package library

import (
	"iter"
	"math/bits"
	"strings"
)

const (
	perByte = 2      // code bytes
	end     = "\x0a" // of each change of the books
)

// codeByte has the numbers' bits at places that are no powers of two. The bits at these places, and bit 0, make an even number of bits in four sets of places, and only one bit that turned over breaks just the sets in which it is.
func codeByte(d byte) byte {
	code := d&1<<3 | d>>1<<5
	for _, x := range [...]struct{ bit, of byte }{{1, 0b10101000}, {2, 0b11001000}, {4, 0b11100000}, {0, 0b11111110}} {
		code |= odd(code&x.of) << x.bit
	}
	return code
}

// odd returns 1 if an odd number of bits are set, and else 0.
func odd(b byte) byte {
	return byte(bits.OnesCount8(b) % 2)
}

// read returns the number as which a byte reads, and whether it does so at all.
func read(b byte) (d byte, ok bool) {
	for d := range byte(16) {
		if bits.OnesCount8(b^codeByte(d)) <= 1 {
			return d, true
		}
	}
	return 0, false
}

// codeOf returns the code bytes of a text.
func codeOf(text string) []byte {
	var code []byte
	for _, b := range []byte(text) {
		code = append(code, codeByte(b&15), codeByte(b>>4))
	}
	return code
}

// textOf returns the text of which bytes are the code, up to the first two bytes that are none.
func textOf(code []byte) string {
	var text []byte
	for ; len(code) >= perByte; code = code[perByte:] {
		low, ok := read(code[0])
		high, can := read(code[1])
		if !ok || !can {
			break
		}
		text = append(text, high<<4|low)
	}
	return string(text)
}

// lines yields all that is before an end in a text. What comes behind the last end is no whole line.
func lines(text string) iter.Seq[string] {
	return func(yield func(string) bool) {
		rest := text
		for {
			line, behind, whole := strings.Cut(rest, end)
			if !whole || !yield(line) {
				return
			}
			rest = behind
		}
	}
}
