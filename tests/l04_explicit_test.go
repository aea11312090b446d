package tests

import (
	"math"
	"math/rand"
	"reflect"
	"slices"
	"testing"

	"loop.example/g00739/impl"
)

// The characters that tell levels, by the names of their classes.
const (
	lre = 8234
	rle = 8235
	pdf = 8236
	lro = 8237
	rlo = 8238
	lri = 8294
	rli = 8295
	fsi = 8296
	pdi = 8297
	bn  = 8203
)

// tellers are of every kind that chapter 4 tells apart.
func tellers() []int64 {
	return []int64{97, 1488, bn, lre, rle, lro, rlo, pdf, lri, rli, fsi, pdi}
}

func many(c int64, times int) []int64 {
	return slices.Repeat([]int64{c}, times)
}

type paraCase struct {
	text       []int64
	base, want int64
}

// paraCases are at the bounds of all codes of ParaFault, and have more than one fault where their order is asked.
func paraCases() []paraCase {
	full := many(97, impl.MaxText)
	cases := []paraCase{
		{nil, 0, impl.OK},
		{nil, 1, impl.OK},
		{[]int64{}, 1, impl.OK},
		{full, 1, impl.OK},
		{many(lre, impl.MaxText), 0, impl.OK},
		{[]int64{0, 9, 11, 12, 14, 133, 8232, 8234, 8297, impl.MaxChar}, 0, impl.OK},
		{nil, -1, impl.ErrRange},
		{nil, 2, impl.ErrRange},
		{nil, 125, impl.ErrRange},
		{nil, 1 << 32, impl.ErrRange},
		{nil, 1<<32 + 1, impl.ErrRange},
		{nil, math.MinInt64, impl.ErrRange},
		{nil, math.MaxInt64, impl.ErrRange},
		{[]int64{97}, 2, impl.ErrRange},
		{[]int64{10}, 0, impl.ErrForm},
		{[]int64{13}, 1, impl.ErrForm},
		{[]int64{8233}, 0, impl.ErrForm},
		{[]int64{13, 10}, 0, impl.ErrForm},
		{[]int64{10, 97, 98}, 0, impl.ErrForm},
		{[]int64{97, 98, 10}, 0, impl.ErrForm}, // at the end, too
		{[]int64{rli, 10, pdi}, 1, impl.ErrForm},
		{append(slices.Clone(full[1:]), 8233), 0, impl.ErrForm},
		{[]int64{10}, 2, impl.ErrRange},     // the base is asked ahead of the separators
		{[]int64{10, -1}, 0, impl.ErrRange}, // and each character ahead of both
		{many(10, impl.MaxText+1), 0, impl.ErrMany},
		{many(10, impl.MaxText+1), 2, impl.ErrMany},
		{many(-1, impl.MaxText+1), -1, impl.ErrMany},
	}
	for _, code := range []int64{impl.ErrMany, impl.ErrRange} {
		for _, text := range faultyTexts(code) {
			for _, base := range []int64{0, 1, 2} {
				cases = append(cases, paraCase{text, base, code})
			}
		}
	}
	return cases
}

// askParaFault asks check of all paraCases, and of each class.
func askParaFault(t *testing.T, check func(t *testing.T, text []int64, base, want int64)) {
	t.Helper()
	for _, c := range paraCases() {
		check(t, c.text, c.base, c.want)
	}
	atTheEnds(func(c int64) {
		want := int64(impl.OK)
		if classByList(c) == impl.ClassB {
			want = impl.ErrForm
		}
		check(t, []int64{c}, 0, want)
		check(t, []int64{1488, c, 97}, 1, want)
	})
}

func TestParaFaultTells(t *testing.T) {
	askParaFault(t, checkParaFault)
}

// checkParaFault asks ExplicitOf the same, which has nothing beside a code.
func checkParaFault(t *testing.T, text []int64, base, want int64) {
	if got := impl.ParaFault(text, base); got != want {
		t.Error(len(text), base, got, want)
	}
	got := impl.ExplicitOf(text, base)
	if got.Code != want || want != impl.OK && len(got.Levels)+len(got.Classes) != 0 {
		t.Error("explicit", len(text), base, got.Code, want)
	}
}

func TestLeast(t *testing.T) {
	for level := int64(0); level < 1000; level++ {
		if got := impl.LeastOdd(level); got != above(level, 1) {
			t.Error("odd", level, got)
		}
		if got := impl.LeastEven(level); got != above(level, 0) {
			t.Error("even", level, got)
		}
	}
	for _, c := range []struct{ level, odd, even int64 }{
		{0, 1, 2}, {1, 3, 2}, {2, 3, 4}, {123, 125, 124}, {124, 125, 126}, {125, 127, 126}, {998, 999, 1000}, {999, 1001, 1000},
		{-1, 0, 0}, {-2, 0, 0}, {1000, 0, 0}, {1001, 0, 0}, {1 << 32, 0, 0}, {1<<32 + 1, 0, 0},
		{math.MinInt64, 0, 0}, {math.MinInt64 + 1, 0, 0}, {math.MaxInt64, 0, 0}, {math.MaxInt64 - 1, 0, 0},
	} {
		if odd, even := impl.LeastOdd(c.level), impl.LeastEven(c.level); odd != c.odd || even != c.even {
			t.Error(c.level, odd, even)
		}
	}
}

type explicitCase struct {
	text         []int64
	base         int64
	levels       []int64
	sameButThese map[int]int64 // places whose class becomes another one
}

func checkCases(t *testing.T, cases []explicitCase) {
	t.Helper()
	for _, c := range cases {
		got := impl.ExplicitOf(c.text, c.base)
		var classes []int64
		for i, char := range c.text {
			class, turned := c.sameButThese[i]
			if !turned {
				class = classByList(char)
			}
			classes = append(classes, class)
		}
		if got.Code != impl.OK || !slices.Equal(got.Levels, c.levels) || !slices.Equal(got.Classes, classes) {
			t.Error(c.text, c.base, got, classes)
		}
	}
}

func TestNothingTold(t *testing.T) {
	checkCases(t, []explicitCase{
		{nil, 0, nil, nil},
		{[]int64{}, 1, nil, nil},
		{[]int64{97, 1488, 49, 32, 40, 9}, 0, []int64{0, 0, 0, 0, 0, 0}, nil},
		{[]int64{97, 1488, 49, 32, 40, 9}, 1, []int64{1, 1, 1, 1, 1, 1}, nil},
		{[]int64{97, bn, 173, 0, 127, 98}, 1, []int64{1, -1, -1, -1, -1, 1}, nil}, // removed
		{[]int64{pdf, 97, pdf}, 0, []int64{-1, 0, -1}, nil},                       // nothing to close
		{[]int64{pdi, 97, pdi}, 1, []int64{1, 1, 1}, nil},
		{[]int64{pdi, pdf, pdi, pdf, 97}, 1, []int64{1, -1, 1, -1, 1}, nil},
		{[]int64{pdf, rle, 97}, 0, []int64{-1, -1, 1}, nil}, // and that hinders nothing later
		{[]int64{pdi, rli, 97, pdi, 98}, 0, []int64{0, 0, 1, 0, 0}, nil},
	})
}

func TestEmbeddings(t *testing.T) {
	checkCases(t, []explicitCase{
		{[]int64{97, lre, 97, pdf, 97}, 0, []int64{0, -1, 2, -1, 0}, nil},
		{[]int64{97, lre, 97, pdf, 97}, 1, []int64{1, -1, 2, -1, 1}, nil},
		{[]int64{97, rle, 97, pdf, 97}, 0, []int64{0, -1, 1, -1, 0}, nil},
		{[]int64{97, rle, 97, pdf, 97}, 1, []int64{1, -1, 3, -1, 1}, nil},
		{[]int64{rle, lre, rle, 97, pdf, 97, pdf, 97, pdf, 97}, 0, []int64{-1, -1, -1, 3, -1, 2, -1, 1, -1, 0}, nil},
		{[]int64{rle, 97, bn, 1488}, 0, []int64{-1, 1, -1, 1}, nil}, // never closed
		{[]int64{rle, pdf, pdf, 97, rle, 97}, 0, []int64{-1, -1, -1, 0, -1, 1}, nil},
	})
}

func TestOverrides(t *testing.T) {
	checkCases(t, []explicitCase{
		{[]int64{lro, 1488, 49, 32, 97, pdf, 1488}, 0, []int64{-1, 2, 2, 2, 2, -1, 0}, map[int]int64{1: toL, 2: toL, 3: toL}},
		{[]int64{rlo, 1488, 49, 32, 97, pdf, 97}, 0, []int64{-1, 1, 1, 1, 1, -1, 0}, map[int]int64{2: toR, 3: toR, 4: toR}},
		{[]int64{rlo, 97, pdf}, 1, []int64{-1, 3, -1}, map[int]int64{1: toR}},
		{[]int64{lro, 1575, 769, 9, 1632, 40}, 1, []int64{-1, 2, 2, 2, 2, 2}, map[int]int64{1: toL, 2: toL, 3: toL, 4: toL, 5: toL}},
		{[]int64{rlo, bn, lre, pdf, 97}, 0, []int64{-1, -1, -1, -1, 1}, map[int]int64{4: toR}}, // what is removed keeps its class
		{[]int64{rlo, 97, lre, 97, pdf, 97}, 0, []int64{-1, 1, -1, 2, -1, 1}, map[int]int64{1: toR, 5: toR}},
		{[]int64{lro, rlo, 97, pdf, 1488, pdf, 1488}, 0, []int64{-1, -1, 3, -1, 2, -1, 0}, map[int]int64{2: toR, 4: toL}},
		{[]int64{rlo, lri, 97, pdi, 97}, 0, []int64{-1, 1, 2, 1, 1}, map[int]int64{1: toR, 3: toR, 4: toR}}, // not within an isolate
		{[]int64{lro, rli, 1488, pdi, 1488}, 0, []int64{-1, 2, 3, 2, 2}, map[int]int64{1: toL, 3: toL, 4: toL}},
		{[]int64{rlo, fsi, 97, pdi}, 0, []int64{-1, 1, 2, 1}, map[int]int64{1: toR, 3: toR}},
		{[]int64{lri, rlo, 97, pdi, 97}, 0, []int64{0, -1, 3, 0, 0}, map[int]int64{2: toR}}, // one within an isolate ends with it
		{[]int64{rlo, lri, lro, 1488, pdi, 49}, 0, []int64{-1, 1, -1, 4, 1, 1}, map[int]int64{1: toR, 3: toL, 4: toR, 5: toR}},
		{[]int64{rlo, pdi, 97}, 0, []int64{-1, 1, 1}, map[int]int64{1: toR, 2: toR}}, // an end without a beginning is turned as well
	})
}

func TestIsolates(t *testing.T) {
	checkCases(t, []explicitCase{
		{[]int64{97, lri, 97, pdi, 97}, 0, []int64{0, 0, 2, 0, 0}, nil},
		{[]int64{97, lri, 97, pdi, 97}, 1, []int64{1, 1, 2, 1, 1}, nil},
		{[]int64{97, rli, 97, pdi, 97}, 0, []int64{0, 0, 1, 0, 0}, nil},
		{[]int64{97, rli, 97, pdi, 97}, 1, []int64{1, 1, 3, 1, 1}, nil},
		{[]int64{rli, 97, 98}, 0, []int64{0, 1, 1}, nil}, // never closed
		{[]int64{rli, lri, rli, 97, pdi, pdi, pdi, 97}, 0, []int64{0, 1, 2, 3, 2, 1, 0, 0}, nil},
		{[]int64{rli, rle, rle, 97, pdi, 97}, 0, []int64{0, -1, -1, 5, 0, 0}, nil}, // its end closes what it holds
		{[]int64{rle, lri, lre, pdi, 97, pdf, 97}, 0, []int64{-1, 1, -1, 1, 1, -1, 0}, nil},
		{[]int64{rle, rli, pdf, 97, pdi, 97}, 0, []int64{-1, 1, -1, 3, 1, 1}, nil}, // what it holds closes nothing outside
		{[]int64{rle, rli, rle, pdf, pdf, 97, pdi, 97, pdf, 97}, 0, []int64{-1, 1, -1, -1, -1, 3, 1, 1, -1, 0}, nil},
		{[]int64{rle, pdi, 97}, 0, []int64{-1, 1, 1}, nil}, // nor does an end close embeddings, where no isolate is open
		{[]int64{rli, pdi, pdf, 97, pdi, 97}, 0, []int64{0, 0, -1, 0, 0, 0}, nil},
		{[]int64{rli, pdf, pdf, 97}, 0, []int64{0, -1, -1, 1}, nil},
	})
}

func TestIsolatesOfTheirOwnWay(t *testing.T) {
	checkCases(t, []explicitCase{
		{[]int64{fsi, 97, pdi}, 0, []int64{0, 2, 0}, nil},
		{[]int64{fsi, 1488, pdi}, 0, []int64{0, 1, 0}, nil},
		{[]int64{fsi, 1575, pdi}, 1, []int64{1, 3, 1}, nil},
		{[]int64{fsi, 97, pdi}, 1, []int64{1, 2, 1}, nil},
		{[]int64{fsi, 49, 1488, pdi}, 0, []int64{0, 1, 1, 0}, nil},
		{[]int64{fsi, 49, pdi, 1488}, 0, []int64{0, 2, 0, 0}, nil}, // what is behind the match is not asked
		{[]int64{fsi, pdi, 1488}, 0, []int64{0, 0, 0}, nil},
		{[]int64{1488, fsi, 49, pdi}, 0, []int64{0, 0, 2, 0}, nil}, // nor what is ahead
		{[]int64{1488, fsi, 49}, 0, []int64{0, 0, 2}, nil},
		{[]int64{fsi}, 0, []int64{0}, nil},
		{[]int64{fsi, 49, 1488}, 0, []int64{0, 1, 1}, nil}, // without a match: all behind it
		{[]int64{fsi, 49, 97, 1488}, 0, []int64{0, 2, 2, 2}, nil},
		{[]int64{fsi, lri, 97, pdi, 1488, pdi}, 0, []int64{0, 1, 2, 1, 1, 0}, nil},            // over an inner isolate
		{[]int64{fsi, rli, 1488, pdi, 49, pdi}, 0, []int64{0, 2, 3, 2, 2, 0}, nil},            // which tells nothing itself
		{[]int64{fsi, fsi, 1488, pdi, 97, pdi}, 0, []int64{0, 2, 3, 2, 2, 0}, nil},            // each asks its own
		{[]int64{fsi, 1488, fsi, 97, pdi, pdi}, 0, []int64{0, 1, 1, 2, 1, 0}, nil},            //
		{[]int64{fsi, 49, rli, pdi, 1488}, 0, []int64{0, 1, 1, 1, 1}, nil},                    //
		{[]int64{fsi, 49, lri, 1488}, 0, []int64{0, 2, 2, 4}, nil},                            // what an open one hides is not asked
		{[]int64{rli, fsi, 49, pdi, pdi, 1488}, 0, []int64{0, 1, 2, 1, 0, 0}, nil},            //
		{[]int64{fsi, lro, 1488, pdf, pdi}, 0, []int64{0, -1, 2, -1, 0}, map[int]int64{2: 0}}, // asked as it was, not as it becomes
		{[]int64{lro, fsi, 1488, pdi, pdf}, 0, []int64{-1, 2, 3, 2, -1}, map[int]int64{1: 0, 3: 0}},
		{[]int64{fsi, rle, 97, pdf, pdi}, 0, []int64{0, -1, 3, -1, 0}, nil},
	})
}

// checkDeep asks for the levels of what stands behind many embeddings, which are removed.
func checkDeep(t *testing.T, ahead, text, levels []int64) {
	t.Helper()
	got := impl.ExplicitOf(slices.Concat(ahead, text), 0)
	if got.Code != impl.OK || !slices.Equal(got.Levels, append(many(-1, len(ahead)), levels...)) {
		t.Error(len(ahead), text, got.Levels, levels)
	}
}

func TestTheBound(t *testing.T) {
	to125, to124, to123 := many(rle, 63), many(lre, 62), many(rle, 62)
	checkDeep(t, to125, []int64{97}, []int64{125})
	checkDeep(t, to124, []int64{97}, []int64{124})
	checkDeep(t, to124, []int64{rle, 97, pdf, 97, pdf, 97}, []int64{-1, 125, -1, 124, -1, 122}) // 125 is one above
	checkDeep(t, to124, []int64{rlo, 97}, []int64{-1, 125})
	checkDeep(t, to124, []int64{rli, 97, pdi, 97, pdf, 97}, []int64{124, 125, 124, 124, -1, 122})
	checkDeep(t, to123, []int64{lre, rle, 97, pdf, 97, pdf, 97}, []int64{-1, -1, 125, -1, 124, -1, 123})
	checkDeep(t, to123, []int64{rle, 97, pdf, 97}, []int64{-1, 125, -1, 123})
	checkDeep(t, to123, []int64{lri, rli, 97, pdi, pdi}, []int64{123, 124, 125, 124, 123})
	for _, embeds := range []int64{lre, rle, lro, rlo} { // each is lost there, and is what a PDF closes
		checkDeep(t, to125, []int64{embeds, 97, pdf, 97, pdf, 97}, []int64{-1, 125, -1, 125, -1, 123})
	}
	for _, embeds := range []int64{lre, lro} { // and these one below
		checkDeep(t, to124, []int64{embeds, 97, pdf, 97, pdf, 97}, []int64{-1, 124, -1, 124, -1, 122})
	}
	for _, isolates := range []int64{lri, rli, fsi} { // a lost one is what a PDI closes
		checkDeep(t, to125, []int64{isolates, 97, pdi, 97, pdf, 97}, []int64{125, 125, 125, 125, -1, 123})
	}
	for _, isolates := range []int64{lri, fsi} {
		checkDeep(t, to124, []int64{isolates, 97, pdi, 97, pdf, 97}, []int64{124, 124, 124, 124, -1, 122})
	}
	checkDeep(t, to124, []int64{fsi, 1488, pdi}, []int64{124, 125, 124})
}

func TestLostEmbeddings(t *testing.T) {
	to124 := many(lre, 62)
	// what would fit is lost with the one that does not, and each PDF closes one
	checkDeep(t, to124, []int64{lre, rle, 97, pdf, 97, pdf, 97, pdf, 97}, []int64{-1, -1, 124, -1, 124, -1, 124, -1, 122})
	checkDeep(t, to124, []int64{lre, rlo, 97, pdf, rle, 97}, []int64{-1, -1, 124, -1, -1, 124})
	checkDeep(t, to124, []int64{lre, pdf, rle, 97}, []int64{-1, -1, -1, 125}) // once it is closed, there is room again
	checkDeep(t, to124, []int64{lre, rle, lre, rle, pdf, pdf, pdf, pdf, 97, pdf, 97}, []int64{-1, -1, -1, -1, -1, -1, -1, -1, 124, -1, 122})
	// a PDI without an isolate closes no lost embedding
	checkDeep(t, to124, []int64{lre, pdi, 97, pdf, 97, pdf, 97}, []int64{-1, 124, 124, -1, 124, -1, 122})
	checkDeep(t, to124, []int64{lre, pdi, rle, 97}, []int64{-1, 124, -1, 124})
	// that of an isolate closes all that are lost within it
	checkDeep(t, many(lre, 61), []int64{rli, lre, lre, lre, 97, pdi, 97, rle, 97}, []int64{122, -1, -1, -1, 124, 122, 122, -1, 123})
	checkDeep(t, many(lre, 61), []int64{rli, lre, lre, lre, pdi, 97, pdf, 97}, []int64{122, -1, -1, -1, 122, 122, -1, 120})
	// of two isolates the inner one alone
	checkDeep(t, many(lre, 60), []int64{rli, lri, lre, lre, 97, pdi, 97, rle, 97}, []int64{120, 121, -1, -1, 124, 121, 121, -1, 123})
}

func TestLostIsolates(t *testing.T) {
	to124 := many(lre, 62)
	// what stands within a lost isolate opens nothing, is not counted, and closes nothing
	checkDeep(t, to124, []int64{lri, rle, 97, pdi, 97, rle, 97}, []int64{124, -1, 124, 124, 124, -1, 125})
	checkDeep(t, to124, []int64{lri, lre, lre, pdi, 97, pdf, 97}, []int64{124, -1, -1, 124, 124, -1, 122})
	checkDeep(t, to124, []int64{lri, pdf, pdf, 97, pdi, 97, pdf, 97}, []int64{124, -1, -1, 124, 124, 124, -1, 122})
	checkDeep(t, to124, []int64{lri, rli, 97, pdi, 97, rle, 97, pdi, 97, rle, 97}, []int64{124, 124, 124, 124, 124, -1, 124, 124, 124, -1, 125})
	checkDeep(t, to124, []int64{lri, fsi, 1488, pdi, rli, 97, pdi, pdi, rli, 97}, []int64{124, 124, 124, 124, 124, 124, 124, 124, 124, 125})
	// its PDI closes no other isolate
	checkDeep(t, many(lre, 61), []int64{rli, lre, lri, 97, pdi, 97, pdf, 97, pdi, 97}, []int64{122, -1, 124, 124, 124, 124, -1, 123, 122, 122})
	// without an end all behind it is as deep
	checkDeep(t, to124, []int64{lri, pdf, rle, 97, pdf, 98}, []int64{124, -1, -1, 124, -1, 124})
	got := impl.ExplicitOf(many(rli, impl.MaxText), 0)
	for i, level := range got.Levels {
		if want := int64(min(max(2*i-1, 0), 125)); level != want {
			t.Error(i, level, want)
		}
	}
}

func TestBothAreLost(t *testing.T) {
	to124, to122 := many(lre, 62), many(lre, 61)
	// embeddings ahead: the isolate is lost with them, and to close it closes none of them
	checkDeep(t, to124, []int64{lre, rli, 97, pdi, 97, rle, 97}, []int64{-1, 124, 124, 124, 124, -1, 124})
	checkDeep(t, to124, []int64{lre, rli, pdf, 97, pdi, 97, rli, 97}, []int64{-1, 124, -1, 124, 124, 124, 124, 124})
	checkDeep(t, to124, []int64{lre, rli, pdi, pdf, rle, 97}, []int64{-1, 124, 124, -1, -1, 125})
	checkDeep(t, to124, []int64{lre, lri, lre, pdi, pdf, pdf, 97}, []int64{-1, 124, -1, 124, -1, -1, 122})
	// within an isolate that is not lost, too
	checkDeep(t, to122, []int64{rli, lre, lre, rli, 97, pdi, rle, 97, pdi, rle, 97}, []int64{122, -1, -1, 124, 124, 124, -1, 124, 122, -1, 123})
	// isolates ahead: no embedding is counted before they are closed, and is then
	checkDeep(t, to124, []int64{lri, lre, 97, pdi, lre, 97, pdf, 97, pdf, 97}, []int64{124, -1, 124, 124, -1, 124, -1, 124, -1, 122})
	checkDeep(t, to124, []int64{lri, lre, pdf, pdi, lre, rli, pdi, pdf, rle, 97}, []int64{124, -1, -1, 124, -1, 124, 124, -1, -1, 125})
}

// A lost one tells no way.
func TestLostOverrides(t *testing.T) {
	for _, c := range []struct {
		base   int64
		told   []int64
		level  int64
		letter int64
	}{
		{0, append(many(rle, 63), rlo), 125, 97},
		{1, append(many(rle, 62), rlo), 125, 97},
		{0, append(many(rle, 63), lro), 125, 1488},
		{0, append(many(lre, 62), lro), 124, 1488},
		{1, append(many(lre, 62), lro), 124, 1488},
		{0, append(many(lre, 62), lro, rlo), 124, 49},
	} {
		got := impl.ExplicitOf(append(slices.Clone(c.told), c.letter), c.base)
		if last := len(c.told); got.Levels[last] != c.level || got.Classes[last] != classByList(c.letter) {
			t.Error(c, got.Levels[last], got.Classes[last])
		}
	}
	got := impl.ExplicitOf(append(many(rlo, 100), 97), 0) // that which is not lost tells on
	if got.Levels[100] != 125 || got.Classes[100] != impl.ClassR {
		t.Error(got)
	}
}

func TestExplicitOfAllKinds(t *testing.T) {
	both := func(text []int64) {
		checkExplicit(t, text, 0)
		checkExplicit(t, text, 1)
	}
	allStrings(tellers(), 4, both)
	allStrings([]int64{97, lre, rle, pdf, rli, lri, pdi}, 4, func(text []int64) {
		checkExplicit(t, slices.Concat(many(lre, 62), text, []int64{97}), 0)
		checkExplicit(t, slices.Concat(many(lri, 61), text, []int64{97}), 1)
	})
	r := rand.New(rand.NewSource(5))
	for range 1500 {
		both(randomText(r, tellers(), r.Intn(40)))
		both(append(randomText(r, []int64{lre, rle, lro, rlo, lri, rli, fsi}, 55+r.Intn(50)), randomText(r, tellers(), r.Intn(80))...))
	}
	openers := append(tellers(), lre, rle, rli, fsi, lri, 49, 1575)
	for range 20 {
		both(randomText(r, openers, impl.MaxText))
		both(append(many(fsi, impl.MaxText/2), randomText(r, append(tellers(), pdi, pdi), impl.MaxText/2)...))
	}
}

// Promise 5: levels that are told keep their bound; what is removed has none.
func checkExplicit(t *testing.T, text []int64, base int64) {
	levels, classes := explicitByParts(text, base)
	got := impl.ExplicitOf(text, base)
	if got.Code != impl.OK || !slices.Equal(got.Levels, levels) || !slices.Equal(got.Classes, classes) {
		t.Fatal(text, base, got, levels, classes)
	}
	for i, level := range got.Levels {
		if isGone(text[i]) != (level == impl.NoLevel) || level != impl.NoLevel && (level < base || level > impl.MaxLevel) {
			t.Fatal("promise 5", text, base, i, level)
		}
	}
}

func TestEachClassIsMet(t *testing.T) {
	atTheEnds(func(c int64) {
		if classByList(c) != impl.ClassB {
			checkExplicit(t, []int64{c}, 1)
			checkExplicit(t, []int64{rlo, c, 97, pdf, c, 1488}, 0)
			checkExplicit(t, []int64{lri, lro, c, 1488, pdi, c, 1488}, 0)
		}
	})
}

// Promise 5: nothing hangs on what comes later but for isolates of their own way.
func TestNothingHangsOnWhatComesLater(t *testing.T) {
	r := rand.New(rand.NewSource(6))
	for range 250 {
		text := append(randomText(r, []int64{97, rle, rli, lre, lri}, r.Intn(140)), randomText(r, tellers(), 40)...)
		base := r.Int63n(2)
		whole := impl.ExplicitOf(text, base)
		for end := range text {
			first := impl.ExplicitOf(text[:end], base)
			if !ownWayIsOpen(text, end) && (!slices.Equal(first.Levels, whole.Levels[:end]) || !slices.Equal(first.Classes, whole.Classes[:end])) {
				t.Fatal(text, base, end, first, whole)
			}
		}
	}
}

// ownWayIsOpen tells whether one ahead of end asks what is behind end.
func ownWayIsOpen(text []int64, end int) bool {
	for i, c := range text[:end] {
		if m := matchFrom(text, i); c == fsi && (m < 0 || m >= end) {
			return true
		}
	}
	return false
}

// And these ask for no more than one of the two ways.
func TestOwnWayIsOneOfTwo(t *testing.T) {
	r := rand.New(rand.NewSource(7))
	for range 600 {
		text := append(randomText(r, []int64{rle, lri, fsi, rli}, r.Intn(80)), randomText(r, tellers(), r.Intn(60))...)
		settled := slices.Clone(text)
		for i, c := range text {
			if c == fsi {
				end := matchFrom(text, i)
				if end < 0 {
					end = len(text)
				}
				settled[i] = lri + impl.BaseLevel(text[i+1:end]).Value
			}
		}
		a, b := impl.ExplicitOf(text, 1), impl.ExplicitOf(settled, 1)
		if !slices.Equal(a.Levels, b.Levels) {
			t.Fatal(text, a, b)
		}
	}
}

// Promise 1 as far as chapter 4 goes: no argument is changed, what is answered is new memory, and it hangs on the arguments alone.
func TestExplicitSharesNothing(t *testing.T) {
	for _, list := range [][]int64{
		nil, {97}, {97, rlo, 97, pdf, 98}, {fsi, 1488, pdi, lro, 1575}, append(many(lre, 70), lri, 97, pdi), {10}, {-1}, make([]int64, 601),
	} {
		text := roomy(list...)
		before := slices.Clone(text[:cap(text)])
		answer, fault := impl.ExplicitOf(text, 1), impl.ParaFault(text, 1)
		again := impl.ExplicitOf(text, 1)
		if !reflect.DeepEqual(answer, again) {
			t.Error("two answers", list)
		}
		scribble(again.Levels, 40)
		if !slices.Equal(again.Classes, answer.Classes) {
			t.Error("shared within", list)
		}
		scribble(again.Classes, 41)
		if slices.Contains(again.Levels, 41) {
			t.Error("shared within", list)
		}
		if !slices.Equal(text[:cap(text)], before) {
			t.Error("changed", text)
		}
		scribble(text, 7)
		if !reflect.DeepEqual(answer, impl.ExplicitOf(list, 1)) || fault != impl.ParaFault(list, 1) {
			t.Error("shared", list, answer)
		}
	}
}
