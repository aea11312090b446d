package impl

import (
	"iter"
	"slices"
	"unicode/utf8"
)

const OK = 0
const ErrForm = 1
const ErrMany = 2
const ErrRange = 3
const ErrNone = 4
const ErrText = 5
const ErrStore = 6
const ErrFull = 7
const ErrState = 8
const MaxBytes = 600
const MaxText = 600
const MaxChar = 1114111
const BadChar = 65533

type IntResult struct {
	Code  int64
	Value int64
}
type IntsResult struct {
	Code int64
	List []int64
}
type BytesResult struct {
	Code  int64
	Bytes []byte
}
type DecodeResult struct {
	Code  int64
	Text  []int64
	Carry []byte
}

// A piece is what decoding takes at once from the front of bytes.
type piece struct {
	bytes []byte
	char  int64
	open  bool // a beginning at the very end: bytes yet to come may make it a character
}

func IsChar(c int64) bool {
	return within(c, 0, 55295, 57344, MaxChar)
}

func EncodeText(text []int64) BytesResult {
	if len(text) > MaxText {
		return BytesResult{Code: ErrMany}
	}
	var out []byte
	for _, c := range text {
		if !IsChar(c) {
			return BytesResult{Code: ErrRange}
		}
		out = utf8.AppendRune(out, rune(c))
	}
	return BytesResult{Bytes: out}
}

func CarryFault(carry []byte) int64 {
	if len(carry) > 0 && !isBeginning(carry) {
		return ErrForm
	}
	return OK
}

func DecodeChunk(carry []byte, data []byte) DecodeResult {
	if fault := CarryFault(carry); fault != OK {
		return DecodeResult{Code: fault}
	}
	if len(data) > MaxBytes {
		return DecodeResult{Code: ErrMany}
	}
	var answer DecodeResult
	for p := range pieces(slices.Concat(carry, data)) {
		if p.open {
			answer.Carry = slices.Clone(p.bytes) // so that it does not hold on to all of data
		} else {
			answer.Text = append(answer.Text, p.char)
		}
	}
	return answer
}

func FlushCarry(carry []byte) DecodeResult {
	if fault := CarryFault(carry); fault != OK {
		return DecodeResult{Code: fault}
	}
	if len(carry) == 0 {
		return DecodeResult{}
	}
	return DecodeResult{Text: []int64{BadChar}}
}

func DecodeAll(data []byte) IntsResult {
	chunk := DecodeChunk(nil, data)
	if chunk.Code != OK {
		return IntsResult{Code: chunk.Code}
	}
	return IntsResult{List: slices.Concat(chunk.Text, FlushCarry(chunk.Carry).Text)}
}

func SameTexts(a []int64, b []int64) bool {
	return slices.Equal(a, b)
}

// within tells whether n is in one of the spans of bounds, which names the lowest and the highest number of each.
func within(n int64, bounds ...int64) bool {
	for i := 0; i+1 < len(bounds); i += 2 {
		if bounds[i] <= n && n <= bounds[i+1] {
			return true
		}
	}
	return false
}

// isBeginning relies on what FullRune calls full: all bytes of a character, and also those that no character begins with.
func isBeginning(data []byte) bool {
	return len(data) > 0 && !utf8.FullRune(data)
}

func pieces(data []byte) iter.Seq[piece] {
	return func(yield func(piece) bool) {
		rest := data
		for len(rest) > 0 {
			p := firstPiece(rest)
			if !yield(p) {
				return
			}
			rest = rest[len(p.bytes):]
		}
	}
}

// firstPiece asks for the size, too, because the character BadChar is read as RuneError from its own three bytes.
func firstPiece(data []byte) piece {
	c, size := utf8.DecodeRune(data)
	if c != utf8.RuneError || size > 1 {
		return piece{bytes: data[:size], char: int64(c)}
	}
	return piece{bytes: data[:badSize(data)], char: BadChar, open: isBeginning(data)}
}

// badSize counts what stands for one BadChar: the longest beginning, where DecodeRune would take its first byte alone.
func badSize(data []byte) int {
	size := 1
	for size < len(data) && isBeginning(data[:size+1]) {
		size++
	}
	return size
}
