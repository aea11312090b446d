package tests

import "sync"

// What chapter 1 says, computed another way than the program does: by the sums of the document, and by a list of all characters.

func bytesOf(c int64) []byte {
	switch {
	case c < 128:
		return []byte{byte(c)}
	case c < 2048:
		return []byte{byte(192 + c/64), byte(128 + c%64)}
	case c < 65536:
		return []byte{byte(224 + c/4096), byte(128 + c/64%64), byte(128 + c%64)}
	}
	return []byte{byte(240 + c/262144), byte(128 + c/4096%64), byte(128 + c/64%64), byte(128 + c%64)}
}

type book struct {
	chars      map[string]int64
	beginnings map[string]bool
}

var theBook = sync.OnceValue(func() book {
	b := book{map[string]int64{}, map[string]bool{}}
	for c := int64(0); c <= 1114111; c++ {
		if 55296 <= c && c <= 57343 {
			continue
		}
		s := string(bytesOf(c))
		b.chars[s] = c
		for n := 1; n < len(s); n++ {
			b.beginnings[s[:n]] = true
		}
	}
	return b
})

// decodeByBook takes the longest listed string at the front, over and over.
func decodeByBook(data []byte) (text []int64, carry []byte) {
	for rest := string(data); rest != ""; {
		n := longestListed(rest)
		c, whole := theBook().chars[rest[:n]]
		switch {
		case whole:
			text = append(text, c)
		case n > 0 && n == len(rest):
			return text, []byte(rest)
		default:
			text = append(text, 65533)
		}
		rest = rest[max(n, 1):]
	}
	return text, nil
}

func longestListed(s string) int {
	for n := min(4, len(s)); n > 0; n-- {
		if _, whole := theBook().chars[s[:n]]; whole || theBook().beginnings[s[:n]] {
			return n
		}
	}
	return 0
}
