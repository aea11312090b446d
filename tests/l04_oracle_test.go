package tests

import "slices"

// What chapter 4 says, computed another way than the program does: not one stack that is met character by character, with
// numbers of what is lost, but isolates one within the other by their matches, each with a chain of embeddings of its own.

type told struct {
	text, levels, classes []int64
}

// A depth is what characters take: way is -1 where they keep their class.
type depth struct{ level, way int64 }

func explicitByParts(text []int64, base int64) (levels, classes []int64) {
	t := told{text: text}
	for _, c := range text {
		t.levels = append(t.levels, -1)
		t.classes = append(t.classes, classByList(c))
	}
	t.tellPart(0, len(text), depth{base, -1}, false)
	return t.levels, t.classes
}

// tellPart goes through what one isolate holds (or all of the text), which begins with the depth first. Within a lost
// isolate nothing is told.
func (t *told) tellPart(from, to int, first depth, lost bool) {
	chain := []depth{first}
	lostHere := 0
	for i := from; i < to; i++ {
		last := chain[len(chain)-1]
		next, embeds := embedded(t.text[i], last.level)
		switch c := t.text[i]; {
		case t.classes[i] == 9, lost && (embeds || c == 8236):
		case embeds && lostHere == 0 && next.level <= 125:
			chain = append(chain, next)
		case embeds:
			lostHere++
		case c == 8236 && lostHere > 0:
			lostHere--
		case c == 8236 && len(chain) > 1:
			chain = chain[:len(chain)-1]
		case c == 8236:
		case opens(c):
			t.takes(i, last)
			end := to
			if m := matchFrom(t.text, i); m >= 0 {
				end = m
			}
			inner := depth{above(last.level, isolateParity(t.text, i, end)), -1}
			if lost || lostHere > 0 || inner.level > 125 {
				t.tellPart(i+1, end, last, true)
			} else {
				t.tellPart(i+1, end, inner, false)
			}
			i = end - 1
		default:
			t.takes(i, last)
		}
	}
}

func (t *told) takes(place int, d depth) {
	t.levels[place] = d.level
	if d.way >= 0 {
		t.classes[place] = d.way
	}
}

// above is the next number that leaves parity.
func above(level, parity int64) int64 {
	for level++; level%2 != parity; level++ {
	}
	return level
}

func embedded(c, level int64) (next depth, embeds bool) {
	switch c {
	case 8234:
		return depth{above(level, 0), -1}, true
	case 8235:
		return depth{above(level, 1), -1}, true
	case 8237:
		return depth{above(level, 0), 0}, true
	case 8238:
		return depth{above(level, 1), 1}, true
	}
	return depth{}, false
}

func isolateParity(text []int64, place, end int) int64 {
	switch text[place] {
	case 8294:
		return 0
	case 8295:
		return 1
	}
	return baseByMatches(text[place+1 : end])
}

// isGone tells what has no level, by its number.
func isGone(c int64) bool {
	return slices.Contains([]int64{8203, 173}, c) || c < 9 || 11 <= c && c <= 31 && c != 13 || 127 <= c && c <= 159 || 8234 <= c && c <= 8238
}
