package tests

import (
	"slices"

	"loop.example/g00739/impl"
)

// What chapter 5 says, computed another way than the program does: no runs go on with others, but each kept character is
// linked to the one that is next to it in its sequence, and sequences are followed from those to which no link leads.

type links struct {
	text, levels []int64
	base         int64
	kept         []int64
	next         map[int64]int64
	linked       map[int64]bool
}

func linksOf(text []int64, base int64) links {
	l := links{text: text, base: base, next: map[int64]int64{}, linked: map[int64]bool{}}
	l.levels, _ = explicitByParts(text, base)
	for i := range text {
		if !isGone(text[i]) {
			l.kept = append(l.kept, int64(i))
		}
	}
	for i, place := range l.kept {
		if i+1 < len(l.kept) && l.levels[l.kept[i+1]] == l.levels[place] {
			l.link(place, l.kept[i+1])
		} else if m := matchFrom(text, int(place)); opens(text[place]) && m >= 0 {
			l.link(place, int64(m))
		}
	}
	return l
}

func (l links) link(from, to int64) {
	l.next[from] = to
	l.linked[to] = true
}

func (l links) follow(first int64) impl.Sequence {
	s := impl.Sequence{Places: []int64{first}, Level: l.levels[first]}
	last := first
	for to, more := l.next[last]; more; to, more = l.next[last] {
		s.Places = append(s.Places, to)
		last = to
	}
	ahead, behind := l.base, l.base
	if i := slices.Index(l.kept, first); i > 0 {
		ahead = l.levels[l.kept[i-1]]
	}
	openToTheEnd := opens(l.text[last]) && matchFrom(l.text, int(last)) < 0
	if i := slices.Index(l.kept, last); i+1 < len(l.kept) && !openToTheEnd {
		behind = l.levels[l.kept[i+1]]
	}
	s.Sos, s.Eos = max(s.Level, ahead)&1, max(s.Level, behind)&1
	return s
}

func sequencesByLinks(text []int64, base int64) []impl.Sequence {
	l := linksOf(text, base)
	var list []impl.Sequence
	for _, place := range l.kept {
		if !l.linked[place] {
			list = append(list, l.follow(place))
		}
	}
	return list
}

// runsByNeighbours begins a run at each kept character that is not as deep as the kept one ahead of it.
func runsByNeighbours(text []int64, base int64) [][]int64 {
	levels, _ := explicitByParts(text, base)
	var runs [][]int64
	ahead := int64(-2) // no level
	for i, level := range levels {
		if level < 0 {
			continue
		}
		if level != ahead {
			runs = append(runs, nil)
		}
		runs[len(runs)-1] = append(runs[len(runs)-1], int64(i))
		ahead = level
	}
	return runs
}
