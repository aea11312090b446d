package tests

import (
	"math/rand"
	"reflect"
	"slices"
	"testing"

	"loop.example/g00739/impl"
)

// sameLists holds an empty list and nil for the same value, where reflect.DeepEqual does not.
func sameLists(a, b [][]int64) bool {
	return slices.EqualFunc(a, b, slices.Equal[[]int64])
}

func TestTextFault(t *testing.T) {
	full := slices.Repeat([]int64{impl.MaxChar}, impl.MaxText)
	for _, text := range [][]int64{nil, {}, {0}, {55295}, {57344}, {impl.MaxChar}, {10, 13, 8233}, full, make([]int64, impl.MaxText)} {
		if got := impl.TextFault(text); got != impl.OK {
			t.Error("a text", len(text), got)
		}
	}
	for _, text := range faultyTexts(impl.ErrMany) {
		if got := impl.TextFault(text); got != impl.ErrMany {
			t.Error("too many", len(text), got)
		}
	}
	for _, text := range faultyTexts(impl.ErrRange) {
		if got := impl.TextFault(text); got != impl.ErrRange {
			t.Error("no character", text[0], len(text), got)
		}
	}
}

// faultyTexts are such that the code is just so: too long, with or without what is no character; or no longer than a text may be.
func faultyTexts(code int64) [][]int64 {
	full := slices.Repeat([]int64{97}, impl.MaxText)
	if code == impl.ErrMany {
		over := append(slices.Clip(full), 97)
		return [][]int64{over, append([]int64{-1}, full...), append(slices.Clip(full), impl.MaxChar+1), make([]int64, 5000)}
	}
	var list [][]int64
	for _, c := range noChars() {
		list = append(list, []int64{c}, []int64{c, 97}, []int64{97, c}, []int64{10, c, 10}, []int64{8294, c, 8297}, []int64{1488, c})
		list = append(list, append([]int64{c}, full[1:]...), append(slices.Clone(full[1:]), c))
	}
	return list
}

func TestOthersAskTextFault(t *testing.T) {
	for _, code := range []int64{impl.ErrMany, impl.ErrRange} {
		for _, text := range faultyTexts(code) {
			if got := impl.SplitText(text); got.Code != code || len(got.Paras) != 0 || got.Ended {
				t.Error("split", len(text), got)
			}
			if got := impl.MatchesOf(text); got.Code != code || len(got.List) != 0 {
				t.Error("matches", len(text), got)
			}
			if got := impl.BaseLevel(text); got != (impl.IntResult{Code: code}) {
				t.Error("base", len(text), got)
			}
		}
	}
}

func TestSplitTextTells(t *testing.T) {
	for _, c := range []struct {
		text  []int64
		paras [][]int64
		ended bool
	}{
		{nil, nil, true},
		{[]int64{}, nil, true},
		{[]int64{97}, [][]int64{{97}}, false},
		{[]int64{97, 98, 99}, [][]int64{{97, 98, 99}}, false},
		{[]int64{97, 10}, [][]int64{{97}}, true},
		{[]int64{97, 10, 98}, [][]int64{{97}, {98}}, false},
		{[]int64{97, 13, 98}, [][]int64{{97}, {98}}, false},
		{[]int64{97, 8233, 98}, [][]int64{{97}, {98}}, false},
		{[]int64{97, 13, 10, 98}, [][]int64{{97}, {98}}, false},      // both are one
		{[]int64{97, 10, 13, 98}, [][]int64{{97}, nil, {98}}, false}, // these are two
		{[]int64{97, 13}, [][]int64{{97}}, true},                     // a 13 at the end
		{[]int64{13}, [][]int64{nil}, true},
		{[]int64{13, 10}, [][]int64{nil}, true},
		{[]int64{10, 13}, [][]int64{nil, nil}, true},
		{[]int64{13, 13}, [][]int64{nil, nil}, true},
		{[]int64{13, 13, 10}, [][]int64{nil, nil}, true},
		{[]int64{13, 10, 10}, [][]int64{nil, nil}, true},
		{[]int64{13, 10, 13, 10}, [][]int64{nil, nil}, true},
		{[]int64{13, 8233, 10}, [][]int64{nil, nil, nil}, true},
		{[]int64{8233, 10}, [][]int64{nil, nil}, true},
		{[]int64{13, 97, 10}, [][]int64{nil, {97}}, true}, // a 10 that is not just behind
		{[]int64{10, 97}, [][]int64{nil, {97}}, false},
		{[]int64{10, 97, 13, 10, 10, 1488, 128512}, [][]int64{nil, {97}, nil, {1488, 128512}}, false},
		{[]int64{11, 12, 133, 8232, 9, 32, 0}, [][]int64{{11, 12, 133, 8232, 9, 32, 0}}, false}, // elsewhere these end lines
		{[]int64{65533, 8294, 10, 8297}, [][]int64{{65533, 8294}, {8297}}, false},
		{slices.Repeat([]int64{10}, impl.MaxText), make([][]int64, impl.MaxText), true},
		{slices.Repeat([]int64{13, 10}, impl.MaxText/2), make([][]int64, impl.MaxText/2), true},
		{slices.Repeat([]int64{impl.MaxChar}, impl.MaxText), [][]int64{slices.Repeat([]int64{impl.MaxChar}, impl.MaxText)}, false},
	} {
		got := impl.SplitText(c.text)
		if got.Code != impl.OK || !sameLists(got.Paras, c.paras) || got.Ended != c.ended {
			t.Error(c.text, got)
		}
	}
}

// Promise 4: paragraphs have no separators, and are all that is not one.
func TestSplitTextOfAllKinds(t *testing.T) {
	allStrings([]int64{97, 10, 13, 8233, 1488}, 6, func(text []int64) { checkSplit(t, text) })
	letters := []int64{97, 10, 13, 13, 10, 8233, 1488, 9, 32, 133, 8232, 8294, 8297, 65533, 128512}
	r := rand.New(rand.NewSource(3))
	for range 300 {
		checkSplit(t, randomText(r, letters, r.Intn(50)))
	}
	for range 20 {
		checkSplit(t, randomText(r, letters, impl.MaxText))
	}
}

func checkSplit(t *testing.T, text []int64) {
	paras, ended := parasByString(text)
	got := impl.SplitText(text)
	if got.Code != impl.OK || !sameLists(got.Paras, paras) || got.Ended != ended {
		t.Fatal(text, got)
	}
	isSeparator := func(c int64) bool { return impl.ClassOf(c).Value == impl.ClassB }
	all := slices.Concat(got.Paras...)
	if slices.ContainsFunc(all, isSeparator) || !slices.Equal(all, slices.DeleteFunc(slices.Clone(text), isSeparator)) {
		t.Fatal("promise 4", text, got)
	}
	if len(got.Paras) > 0 && len(got.Paras[len(got.Paras)-1]) == 0 && !got.Ended {
		t.Fatal("nothing stands behind the last separator", text, got)
	}
}

func TestSeparatorsAreThree(t *testing.T) {
	atTheEnds(func(c int64) {
		got := impl.SplitText([]int64{97, c, 98})
		want := [][]int64{{97, c, 98}}
		if c == 10 || c == 13 || c == 8233 {
			want = [][]int64{{97}, {98}}
		}
		if got.Code != impl.OK || !sameLists(got.Paras, want) || got.Ended {
			t.Error(c, got)
		}
	})
}

// atTheEnds goes through the ends of all ranges of classes, so through what stands beside each character that means something.
func atTheEnds(each func(c int64)) {
	for _, r := range allClasses() {
		each(r.first)
		if r.last > r.first {
			each(r.last)
		}
	}
}

func TestMatchesTell(t *testing.T) {
	for _, c := range []struct{ text, want []int64 }{
		{nil, nil},
		{[]int64{}, nil},
		{[]int64{97}, []int64{-1}},
		{[]int64{8294}, []int64{-1}}, // no end
		{[]int64{8297}, []int64{-1}}, // no beginning
		{[]int64{8297, 8294}, []int64{-1, -1}},
		{[]int64{8294, 8297}, []int64{1, 0}}, // all three kinds
		{[]int64{8295, 8297}, []int64{1, 0}},
		{[]int64{8296, 8297}, []int64{1, 0}},
		{[]int64{8294, 97, 8297, 8297}, []int64{2, -1, 0, -1}},
		{[]int64{8294, 8295, 8297}, []int64{-1, 2, 1}},
		{[]int64{8294, 8295, 8296, 8297, 8297, 8297}, []int64{5, 4, 3, 2, 1, 0}},
		{[]int64{8294, 8295, 8297, 8296, 8297, 8297}, []int64{5, 2, 1, 4, 3, 0}},
		{[]int64{8297, 8294, 8297, 8297, 8295, 8296, 8297}, []int64{-1, 2, 1, -1, -1, 6, 5}},
		{[]int64{8294, 10, 8297}, []int64{2, -1, 0}}, // nothing is said of separators
		{[]int64{8294, 8236, 8235, 8297}, []int64{3, -1, -1, 0}},
		{[]int64{128512, 8296, impl.MaxChar, 97, 8297, 1488}, []int64{-1, 4, -1, -1, 1, -1}}, // places are those of characters, not of bytes
	} {
		if got := impl.MatchesOf(c.text); got.Code != impl.OK || !slices.Equal(got.List, c.want) {
			t.Error(c.text, got)
		}
	}
}

func TestMatchesOfAFullText(t *testing.T) {
	half := slices.Repeat([]int64{8295}, impl.MaxText/2)
	text := append(slices.Clip(half), slices.Repeat([]int64{8297}, impl.MaxText/2)...)
	got := impl.MatchesOf(text)
	if got.Code != impl.OK || len(got.List) != impl.MaxText {
		t.Fatal(got)
	}
	for i, m := range got.List {
		if m != int64(impl.MaxText-1-i) {
			t.Error(i, m)
		}
	}
	for _, c := range []int64{8294, 8295, 8296, 8297} {
		if got := impl.MatchesOf(slices.Repeat([]int64{c}, impl.MaxText)); !slices.Equal(got.List, slices.Repeat([]int64{-1}, impl.MaxText)) {
			t.Error(c, got)
		}
	}
}

// isolateLetters are of every kind that chapter 3 tells apart between isolates, and of some that it does not.
func isolateLetters() []int64 {
	return []int64{97, 1488, 1575, 49, 10, 8294, 8295, 8296, 8297}
}

func TestMatchesAndBaseOfAllKinds(t *testing.T) {
	check := func(text []int64) {
		checkMatches(t, text)
		checkBase(t, text)
	}
	allStrings(isolateLetters(), 5, check)
	r := rand.New(rand.NewSource(4))
	weak := []int64{49, 32, 8294, 8295, 8296, 8297, 8297, 8297, 8234, 8235, 8236, 8238, 13}
	for range 500 {
		check(randomText(r, append(isolateLetters(), weak...), r.Intn(40)))
		check(append(randomText(r, weak, r.Intn(40)), randomText(r, isolateLetters(), 4)...))
	}
	for range 20 {
		check(randomText(r, weak, impl.MaxText))
	}
}

// Promise 4: what matches matches back.
func checkMatches(t *testing.T, text []int64) {
	got := impl.MatchesOf(text)
	if got.Code != impl.OK || !slices.Equal(got.List, matchesByCount(text)) {
		t.Fatal(text, got)
	}
	for i, m := range got.List {
		if m != -1 && (got.List[m] != int64(i) || opens(text[i]) == opens(text[m])) {
			t.Fatal("promise 4", text, got)
		}
	}
}

func checkBase(t *testing.T, text []int64) {
	if got := impl.BaseLevel(text); got != (impl.IntResult{Value: baseByMatches(text)}) {
		t.Fatal(text, got)
	}
}

func TestWhatOpensAndWhatMatches(t *testing.T) {
	atTheEnds(func(c int64) {
		first, second := []int64{-1, -1}, []int64{-1, -1}
		if opens(c) {
			first = []int64{1, 0}
		}
		if c == 8297 {
			second = []int64{1, 0}
		}
		if got := impl.MatchesOf([]int64{c, 8297}); !slices.Equal(got.List, first) {
			t.Error("opens", c, got)
		}
		if got := impl.MatchesOf([]int64{8296, c}); !slices.Equal(got.List, second) {
			t.Error("matches", c, got)
		}
	})
}

func TestBaseLevelTells(t *testing.T) {
	for _, c := range []struct {
		text []int64
		want int64
	}{
		{nil, 0},
		{[]int64{}, 0},
		{[]int64{97}, 0},
		{[]int64{1488}, 1},
		{[]int64{1575}, 1},
		{[]int64{97, 1488}, 0},
		{[]int64{1488, 97}, 1},
		{[]int64{49, 1488, 97}, 1},
		{[]int64{49, 1632, 32, 40, 769}, 0}, // nothing that has a way
		{[]int64{1632}, 0},
		{[]int64{10, 13, 1488}, 1},         // a separator is passed over
		{[]int64{8294, 1488, 8297, 97}, 0}, // what an isolate holds is not asked
		{[]int64{8295, 97, 8297, 1488}, 1},
		{[]int64{8296, 97, 8297, 1575}, 1},
		{[]int64{8294, 97, 8297}, 0},
		{[]int64{8295, 1488, 8297}, 0},
		{[]int64{8294, 1488}, 0}, // nor what is behind one without a match
		{[]int64{8295, 1488, 1575}, 0},
		{[]int64{8296, 1488, 10, 1488}, 0},   // up to the very end of the text
		{[]int64{8294, 8295, 8297, 1488}, 0}, // nor behind the outer one, if the inner one alone is matched
		{[]int64{8294, 8295, 1488, 8297}, 0},
		{[]int64{8294, 8295, 8297, 8297, 1488}, 1},
		{[]int64{8294, 8295, 97, 8297, 97, 8297, 1488}, 1},
		{[]int64{8297, 1488}, 1}, // an end without a beginning
		{[]int64{8297, 8297, 8294, 1488, 8297, 97}, 0},
		{[]int64{8297, 8294, 97, 8297, 1488}, 1}, // it does not close what comes later
		{[]int64{1488, 8294, 97}, 1},             // what is ahead of an isolate is asked
		{[]int64{97, 8295, 1488, 8297}, 0},
		{[]int64{8235, 97, 8236, 1488}, 0}, // embeddings hide nothing
		{[]int64{8234, 1488, 8236, 97}, 1},
		{[]int64{8238, 49}, 0}, // and have no way themselves
	} {
		if got := impl.BaseLevel(c.text); got != (impl.IntResult{Value: c.want}) {
			t.Error(c.text, got)
		}
	}
}

func TestBaseLevelOfEachClass(t *testing.T) {
	atTheEnds(func(c int64) {
		class := classByList(c)
		alone, ahead := int64(0), int64(1)
		if class == impl.ClassR || class == impl.ClassAL {
			alone = 1
		}
		if class == impl.ClassL || opens(c) {
			ahead = 0
		}
		if got := impl.BaseLevel([]int64{c}); got != (impl.IntResult{Value: alone}) {
			t.Error("alone", c, got)
		}
		if got := impl.BaseLevel([]int64{c, 1488}); got != (impl.IntResult{Value: ahead}) {
			t.Error("ahead of a letter to the left", c, got)
		}
	})
}

func TestBaseLevelOfAFullText(t *testing.T) {
	weak := slices.Repeat([]int64{49}, impl.MaxText-1)
	deep := append(slices.Repeat([]int64{8296}, impl.MaxText/2-1), slices.Repeat([]int64{8297}, impl.MaxText/2)...)
	for _, ahead := range [][]int64{weak, deep, slices.Repeat([]int64{8297}, impl.MaxText-1)} {
		if got := impl.BaseLevel(append(slices.Clip(ahead), 1488)); got != (impl.IntResult{Value: 1}) {
			t.Error(ahead[0], got)
		}
	}
	if got := impl.BaseLevel(append(slices.Repeat([]int64{8295}, impl.MaxText-1), 1488)); got != (impl.IntResult{}) {
		t.Error("all open", got)
	}
}

// Promise 1 as far as chapter 3 goes: no argument is changed, what is answered is new memory, and it hangs on the arguments alone.
func TestParasShareNothing(t *testing.T) {
	for _, list := range [][]int64{
		nil, {97}, {97, 98, 10, 99, 13, 10, 100}, {10, 10, 97, 97, 97, 8233}, {8294, 97, 8295, 8297, 1488, 8297}, {1488, 8294, 8297}, {97, -1}, make([]int64, 601),
	} {
		text := roomy(list...)
		before := slices.Clone(text[:cap(text)])
		paras, matches, base, fault := impl.SplitText(text), impl.MatchesOf(text), impl.BaseLevel(text), impl.TextFault(text)
		again, matchesAgain := impl.SplitText(text), impl.MatchesOf(text)
		if !reflect.DeepEqual(paras, again) || !reflect.DeepEqual(matches, matchesAgain) || base != impl.BaseLevel(text) {
			t.Error("two answers", list)
		}
		for _, para := range again.Paras {
			scribble(para, 1)
		}
		scribble(again.Paras, []int64{7})
		scribble(matchesAgain.List, 1)
		if !slices.Equal(text[:cap(text)], before) {
			t.Error("changed", text)
		}
		scribble(text, 7)
		if !reflect.DeepEqual(paras, impl.SplitText(list)) || !reflect.DeepEqual(matches, impl.MatchesOf(list)) || base != impl.BaseLevel(list) || fault != impl.TextFault(list) {
			t.Error("shared", list, paras, matches)
		}
	}
}

// No two lists within one answer share memory: to write over one, and behind it, leaves all others as they were.
func TestParasShareNothingAmongThemselves(t *testing.T) {
	for _, text := range [][]int64{{97, 98, 99, 10, 100, 13, 10, 10, 101, 102}, {97, 10, 98, 10, 99, 10}, {97, 97, 97, 97, 97, 10, 98}} {
		want := impl.SplitText(text).Paras
		for i := range want {
			got := impl.SplitText(text).Paras
			scribble(got[i], 1)
			for j := range got {
				if j != i && !slices.Equal(got[j], want[j]) {
					t.Error(text, i, j, got)
				}
			}
		}
	}
}
