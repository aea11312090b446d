package tests

import (
	"math"
	"math/rand"
	"slices"
)

// noChars are numbers that are no characters: just outside of each bound, far outside, and such that low bits alone would be one.
func noChars() []int64 {
	return []int64{-1, -65, 55296, 56000, 57343, 1114112, 1<<31 + 65, 1<<32 + 65, -1<<32 + 65, math.MaxInt32, math.MaxInt64, math.MinInt64}
}

// edgeBytes holds every byte at which what may follow, or what it stands for, changes.
func edgeBytes() []byte {
	return []byte{0, 'A', 127, 128, 143, 144, 159, 160, 191, 192, 193, 194, 223, 224, 225, 236, 237, 238, 239, 240, 241, 243, 244, 245, 255}
}

// allStrings goes through all lists of up to most elements of letters.
func allStrings[T any](letters []T, most int, each func([]T)) {
	var grow func(s []T)
	grow = func(s []T) {
		each(s)
		if len(s) == most {
			return
		}
		for _, b := range letters {
			grow(append(slices.Clip(s), b))
		}
	}
	grow(nil)
}

// randomBytes draws from the bytes at edges, and now and then a whole character, so that all kinds of pieces meet.
func randomBytes(r *rand.Rand, size int) []byte {
	var out []byte
	for len(out) < size {
		switch r.Intn(3) {
		case 0:
			out = append(out, bytesOf(randomChar(r))...)
		case 1:
			c := bytesOf(randomChar(r))
			out = append(out, c[:r.Intn(len(c))]...)
		default:
			out = append(out, edgeBytes()[r.Intn(len(edgeBytes()))])
		}
	}
	return out[:size]
}

func randomChar(r *rand.Rand) int64 {
	tops := []int64{127, 2047, 55295, 65535, 1114111}
	for {
		if c := r.Int63n(tops[r.Intn(len(tops))] + 1); c < 55296 || c > 57343 {
			return c
		}
	}
}

// randomText draws all of its characters from letters.
func randomText(r *rand.Rand, letters []int64, size int) []int64 {
	out := make([]int64, size)
	for i := range out {
		out[i] = letters[r.Intn(len(letters))]
	}
	return out
}
