package tests

import "strings"

// What chapter 3 says, computed another way than the program does: paragraphs by replacing within a string, matches by
// counting from each opening character on, and the base level from these matches and the list of classes.

func parasByString(text []int64) (paras [][]int64, ended bool) {
	var s strings.Builder
	for _, c := range text {
		s.Write(bytesOf(c))
	}
	oneKind := strings.NewReplacer("\r\n", "\n", "\r", "\n", "\u2029", "\n").Replace(s.String())
	pieces := strings.Split(oneKind, "\n")
	last := len(pieces) - 1
	ended = pieces[last] == ""
	if ended {
		pieces = pieces[:last]
	}
	for _, piece := range pieces {
		var para []int64
		for _, c := range []rune(piece) {
			para = append(para, int64(c))
		}
		paras = append(paras, para)
	}
	return paras, ended
}

func opens(c int64) bool {
	return c == 8294 || c == 8295 || c == 8296
}

// matchFrom is the place at which as many are closed as were opened from place on, or -1.
func matchFrom(text []int64, place int) int {
	open := 0
	for i, c := range text[place:] {
		if opens(c) {
			open++
		}
		if c == 8297 {
			open--
		}
		if open == 0 {
			return place + i
		}
	}
	return -1
}

func matchesByCount(text []int64) []int64 {
	list := make([]int64, len(text))
	for i := range list {
		list[i] = -1
	}
	for i, c := range text {
		if !opens(c) {
			continue
		}
		if m := matchFrom(text, i); m >= 0 {
			list[i], list[m] = int64(m), int64(i)
		}
	}
	return list
}

func classByList(c int64) int64 {
	for _, r := range allClasses() {
		if r.first <= c && c <= r.last {
			return r.class
		}
	}
	return -1
}

func baseByMatches(text []int64) int64 {
	isolated := make([]bool, len(text))
	for i, c := range text {
		if !opens(c) {
			continue
		}
		end := matchFrom(text, i)
		if end < 0 {
			end = len(text)
		}
		for j := i + 1; j < end; j++ {
			isolated[j] = true
		}
	}
	for i, c := range text {
		if class := classByList(c); !isolated[i] && class <= 2 {
			return min(class, 1)
		}
	}
	return 0
}
