package tests

import (
	"strings"

	"loop.example/g00739/impl"
)

// What chapter 8 says, computed another way than the program does: parts come of what the tests of chapters 4 to 7 compute, and
// a level is searched for from the told one on, by whether what stands there is even.

// signs are written for characters that are not seen, or would turn the line in which they stand.
var signs = map[rune]int64{
	'→': lre, '←': rle, '⇒': lro, '⇐': rlo, '↑': pdf,
	'▷': lri, '◁': rli, '◇': fsi, '△': pdi,
	'·': bn, '´': 769, 'æ': 1575, '①': 1633, '②': 1634,
}

// written has letters that go to the left in capitals; what is neither one of them nor a sign stands for itself.
func written(s string) []int64 {
	var text []int64
	for _, c := range s {
		sign, isSign := signs[c]
		switch {
		case isSign:
			text = append(text, sign)
		case c >= 'A' && c <= 'Z':
			text = append(text, 1488+int64(c-'A'))
		default:
			text = append(text, int64(c))
		}
	}
	return text
}

// partsByTests tells each sequence of a paragraph with its part.
func partsByTests(text []int64, base int64, each func(s impl.Sequence, p impl.Part)) {
	_, classes := explicitByParts(text, base)
	for _, s := range sequencesByLinks(text, base) {
		p := impl.Part{Level: s.Level, Sos: s.Sos, Eos: s.Eos}
		for _, place := range s.Places {
			p.Text, p.Firsts = append(p.Text, text[place]), append(p.Firsts, classes[place])
		}
		p.Now = kindsOf(weakByLetters(lettersOf(p.Firsts), sideLetter(s.Sos == toR)))
		each(s, p)
	}
}

func levelsByTests(text []int64, base int64) []int64 {
	levels := many(-1, len(text))
	partsByTests(text, base, func(s impl.Sequence, p impl.Part) {
		for i, letter := range neutralsByLetters(bracketsByLetters(p), p) {
			levels[s.Places[i]] = levelFor(letter, p.Level)
		}
	})
	return levels
}

// levelFor is asked of a letter of classes: letters may stay at the told level, but numbers stand above it.
func levelFor(letter rune, told int64) int64 {
	switch letter {
	case 'L':
		return above(told-1, 0)
	case 'R':
		return above(told-1, 1)
	}
	return above(told, 0)
}

// digitsOf writes a level in one digit, and - for none.
func digitsOf(levels []int64) string {
	var out strings.Builder
	for _, level := range levels {
		out.WriteByte("-0123456789"[level+1])
	}
	return out.String()
}
