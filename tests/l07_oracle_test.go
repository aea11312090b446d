package tests

import (
	"regexp"
	"strings"

	"loop.example/g00739/impl"
)

// What chapter 7 says, computed another way than the program does: a part is a string with one letter for each of its
// characters, pairs are found by asking of each place whether some pair goes over it, and sides are found within strings.

// A partLetter says what one letter of a part stands for. The letters of classLetters stand for a character of that class, but
// for ^, which is a mark that is neutral by now.
type partLetter struct{ c, first, now int64 }

var partLetters = func() map[byte]partLetter {
	letters := map[byte]partLetter{
		'^': {769, impl.ClassNSM, impl.ClassON},
		'n': {769, impl.ClassNSM, impl.ClassNSM},
		'l': {769, impl.ClassNSM, impl.ClassL},
		'r': {769, impl.ClassNSM, impl.ClassR},
		// 9001, 9002, 12296 and 12297
		'b': {9001, impl.ClassON, impl.ClassON},
		'd': {9002, impl.ClassON, impl.ClassON},
		'p': {12296, impl.ClassON, impl.ClassON},
		'q': {12297, impl.ClassON, impl.ClassON},
		// a parenthesis that is not neutral by now
		'j': {'(', impl.ClassON, impl.ClassL},
		'k': {')', impl.ClassON, impl.ClassL},
		'J': {'(', impl.ClassON, impl.ClassR},
		'K': {')', impl.ClassON, impl.ClassR},
		// one that was a mark at first
		'u': {'(', impl.ClassNSM, impl.ClassON},
		'v': {')', impl.ClassNSM, impl.ClassON},
		// one that was no neutral at first, but is by now
		'w': {'(', impl.ClassL, impl.ClassON},
		'x': {')', impl.ClassR, impl.ClassON},
		// what was neutral at first, but is a letter by now; and one that is a pair's, but no bracket
		'h': {'!', impl.ClassON, impl.ClassL},
		'i': {'!', impl.ClassON, impl.ClassR},
		'y': {'<', impl.ClassON, impl.ClassON},
		'z': {'>', impl.ClassON, impl.ClassON},
	}
	for _, c := range []byte("()[]{}") {
		letters[c] = partLetter{int64(c), impl.ClassON, impl.ClassON}
	}
	chars := []int64{97, 1488, 1569, 49, '+', '%', 1632, ',', 0, 8203, 10, 9, 32, '!', lre, rle, pdf, lro, rlo, lri, rli, fsi, pdi}
	for i, class := range classKinds() {
		if class != impl.ClassNSM {
			letters[classLetters[i]] = partLetter{chars[i], class, class}
		}
	}
	return letters
}()

func partOf(letters string, level, sos, eos int64) impl.Part {
	p := impl.Part{Level: level, Sos: sos, Eos: eos}
	for i := range len(letters) {
		what, found := partLetters[letters[i]]
		if !found {
			panic("no letter of a part: " + letters[i:i+1])
		}
		p.Text, p.Firsts, p.Now = append(p.Text, what.c), append(p.Firsts, what.first), append(p.Now, what.now)
	}
	return p
}

// namesOf has 0 where no bracket is that counts, and what is negative for a closing one.
func namesOf(p impl.Part) []int64 {
	all := bracketNames()
	names := make([]int64, len(p.Text))
	for place, c := range p.Text {
		if p.Now[place] == impl.ClassON {
			names[place] = all[c]
		}
	}
	return names
}

// pairsByReach asks of each bracket ahead of a closing one whether it is still open: no pair is there yet that goes over it.
func pairsByReach(p impl.Part) []impl.Pair {
	names := namesOf(p)
	partner := make([]int, len(p.Text)) // of an open bracket: the place of the closing one, or 0
	gone := make([]bool, len(p.Text))
	for place := range names {
		stillOpen := 0
		match := -1
		for ahead := range place {
			if names[ahead] > 0 && !gone[ahead] {
				stillOpen++
				if names[ahead] == -names[place] {
					match = ahead
				}
			}
		}
		if names[place] > 0 && stillOpen == 63 {
			return nil
		}
		if match >= 0 {
			partner[match] = place
			for over := match; over < place; over++ {
				gone[over] = true
			}
		}
	}
	var pairs []impl.Pair
	for open, end := range partner {
		if end > 0 {
			pairs = append(pairs, impl.Pair{Open: int64(open), Close: int64(end)})
		}
	}
	return pairs
}

// sidesOnly leaves of the letters of classes those of their sides.
var sidesOnly = strings.NewReplacer("A", "-", "E", "R", "N", "R")

func sideLetter(odd bool) string {
	if odd {
		return "R"
	}
	return "L"
}

// bracketsByLetters answers in the letters of classes.
func bracketsByLetters(p impl.Part) string {
	firsts, now := lettersOf(p.Firsts), lettersOf(p.Now)
	way, other := sideLetter(p.Level%2 == 1), sideLetter(p.Level%2 == 0)
	for _, pair := range pairsByReach(p) {
		sides := sidesOnly.Replace(now)
		within := sides[pair.Open+1 : pair.Close]
		ahead := sideLetter(p.Sos == toR) + sides[:pair.Open]
		becomes := way
		if !strings.Contains(within, way) {
			if !strings.Contains(within, other) {
				continue
			}
			if strings.LastIndex(ahead, other) > strings.LastIndex(ahead, way) {
				becomes = other
			}
		}
		for _, bracket := range []int64{pair.Open, pair.Close} {
			behind := firsts[bracket+1:]
			marks := len(behind) - len(strings.TrimLeft(behind, "^"))
			end := int(bracket) + 1 + marks
			now = now[:bracket] + strings.Repeat(becomes, 1+marks) + now[end:]
		}
	}
	return now
}

var neutrals = regexp.MustCompile(`[/S_o<>?!]+`)

// neutralsByLetters takes the sides ahead and behind for letters of the text.
func neutralsByLetters(now string, p impl.Part) string {
	sos, eos := sideLetter(p.Sos == toR), sideLetter(p.Eos == toR)
	sides := sidesOnly.Replace(sos + now + eos)
	out := []byte(now)
	for _, run := range neutrals.FindAllStringIndex(now, -1) {
		ahead, behind := sides[run[0]:run[0]+1], sides[run[1]+1:run[1]+2]
		if !strings.Contains("LR", ahead) {
			ahead = sos
		}
		if !strings.Contains("LR", behind) {
			behind = eos
		}
		becomes := sideLetter(p.Level%2 == 1)
		if ahead == behind {
			becomes = ahead
		}
		copy(out[run[0]:run[1]], strings.Repeat(becomes, run[1]-run[0]))
	}
	return string(out)
}
