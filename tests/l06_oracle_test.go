package tests

import (
	"regexp"
	"strings"

	"loop.example/g00739/impl"
)

// What chapter 6 says, computed another way than the program does: a list is a string with one letter for each class, a side
// is a letter ahead of it, and what becomes of them is replaced, over and over where one place changes what another one becomes.

// classLetters has its letters in the order of classKinds.
const classLetters = "LRAE+%N,^0/S_o12345<>?!"

func classKinds() []int64 {
	return []int64{
		impl.ClassL, impl.ClassR, impl.ClassAL, impl.ClassEN, impl.ClassES, impl.ClassET, impl.ClassAN, impl.ClassCS,
		impl.ClassNSM, impl.ClassBN, impl.ClassB, impl.ClassS, impl.ClassWS, impl.ClassON,
		impl.ClassLRE, impl.ClassRLE, impl.ClassPDF, impl.ClassLRO, impl.ClassRLO,
		impl.ClassLRI, impl.ClassRLI, impl.ClassFSI, impl.ClassPDI,
	}
}

// lettersOf is asked of classes alone.
func lettersOf(list []int64) string {
	letters := map[int64]byte{}
	for i, class := range classKinds() {
		letters[class] = classLetters[i]
	}
	out := make([]byte, len(list))
	for i, class := range list {
		out[i] = letters[class]
	}
	return string(out)
}

func kindsOf(letters string) []int64 {
	kinds := classKinds()
	var list []int64
	for i := range len(letters) {
		list = append(list, kinds[strings.IndexByte(classLetters, letters[i])])
	}
	return list
}

var (
	marksBehind = regexp.MustCompile(`[^^]\^+`)
	behindAL    = regexp.MustCompile(`A[^LRA]*`)
	behindL     = regexp.MustCompile(`L[^LR]*`)
)

func marksByLetters(s, side string) string {
	return marksBehind.ReplaceAllStringFunc(side+s, func(m string) string {
		if strings.Contains("<>?!", m[:1]) {
			return m[:1] + strings.Repeat("o", len(m)-1)
		}
		return strings.Repeat(m[:1], len(m))
	})[1:]
}

func numbersByLetters(s, side string) string {
	arabic := behindAL.ReplaceAllStringFunc(side+s, func(m string) string {
		return strings.ReplaceAll(m, "E", "N")
	})
	return strings.ReplaceAll(arabic, "A", "R")[1:]
}

func signsByLetters(s, side string) string {
	s = replacedOften(s, strings.NewReplacer("E+E", "EEE", "E,E", "EEE", "N,N", "NNN"))
	s = replacedOften(s, strings.NewReplacer("E%", "EE", "%E", "EE"))
	s = strings.NewReplacer("+", "o", "%", "o", ",", "o").Replace(s)
	return behindL.ReplaceAllStringFunc(side+s, func(m string) string {
		return strings.ReplaceAll(m, "E", "L")
	})[1:]
}

func weakByLetters(s, side string) string {
	return signsByLetters(numbersByLetters(marksByLetters(s, side), side), side)
}

// replacedOften goes on until nothing changes, because a replacer does not look again at what it wrote.
func replacedOften(s string, r *strings.Replacer) string {
	for next := r.Replace(s); next != s; next = r.Replace(s) {
		s = next
	}
	return s
}
