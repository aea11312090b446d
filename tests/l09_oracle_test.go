package tests

import "slices"

// What chapter 9 says, computed another way than the program does: marks are taken out of the text ahead of all else, each two that
// stand side by side then are joined or not, and ligatures are laid over what comes of that. Forms are those of chapter 2's list.

// formsByList is built once, because it is asked of each character.
var formsByList = letterForms()

func isMark(c int64) bool {
	return classByList(c) == 8
}

func joinsAfterByList(c int64) bool {
	return c == 1600 || len(formsByList[c]) == 4
}

func joinsBeforeByList(c int64) bool {
	return c == 1600 || len(formsByList[c]) > 1
}

func ligatureLetters() []int64 {
	return []int64{1570, 1571, 1573, 1575}
}

// ligatureByList counts the ligatures two by two, in the order of their letters.
func ligatureByList(c int64, joined bool) int64 {
	ligature := 65269 + 2*int64(slices.Index(ligatureLetters(), c))
	if joined {
		ligature++
	}
	return ligature
}

func isLigature(c, behind int64) bool {
	return c == 1604 && slices.Contains(ligatureLetters(), behind)
}

// jointsOf tells of each place whether it is joined to what is ahead of it, and to what is behind it.
func jointsOf(text []int64) (before, after []bool) {
	before, after = make([]bool, len(text)), make([]bool, len(text))
	last := -1
	for i, c := range text {
		if isMark(c) {
			continue
		}
		if last >= 0 && joinsAfterByList(text[last]) && joinsBeforeByList(c) {
			after[last], before[i] = true, true
		}
		last = i
	}
	return before, after
}

func shapeByJoints(text []int64) []int64 {
	before, after := jointsOf(text)
	shaped := slices.Clone(text)
	for i, c := range text {
		if forms := formsByList[c]; len(forms) > 0 {
			shaped[i] = formByList(forms, before[i], after[i])
		}
	}
	for i := 1; i < len(text); i++ {
		if isLigature(text[i-1], text[i]) {
			shaped[i-1], shaped[i] = ligatureByList(text[i], before[i-1]), -1
		}
	}
	return shaped
}

// letterOfForms tells the letter of each form.
func letterOfForms() map[int64]int64 {
	bare := map[int64]int64{}
	for c, forms := range formsByList {
		for _, form := range forms {
			bare[form] = c
		}
	}
	return bare
}

// saidBy tells what text says, in its order: letters for their forms, and both for a ligature; what is gone says nothing.
func saidBy(text []int64) []int64 {
	bare := letterOfForms()
	var said []int64
	for _, c := range text {
		switch {
		case c == -1:
		case c >= 65269 && c <= 65276:
			said = append(said, 1604, ligatureLetters()[(c-65269)/2])
		case bare[c] != 0:
			said = append(said, bare[c])
		default:
			said = append(said, c)
		}
	}
	return said
}
