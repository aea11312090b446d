package tests

import (
	"math"
	"math/rand"
	"reflect"
	"slices"
	"testing"

	"loop.example/g00739/impl"
)

const (
	toL = impl.ClassL
	toR = impl.ClassR
)

func seq(level, sos, eos int64, places ...int64) impl.Sequence {
	return impl.Sequence{Places: places, Level: level, Sos: sos, Eos: eos}
}

// equalSequences does not ask SameSequences, which is tested itself.
func equalSequences(a, b []impl.Sequence) bool {
	return slices.EqualFunc(a, b, func(x, y impl.Sequence) bool {
		return slices.Equal(x.Places, y.Places) && x.Level == y.Level && x.Sos == y.Sos && x.Eos == y.Eos
	})
}

func TestRunsTell(t *testing.T) {
	for _, c := range []struct {
		text []int64
		base int64
		want [][]int64
	}{
		{nil, 0, nil},
		{nil, 1, nil},
		{[]int64{}, 0, nil},
		{[]int64{97}, 0, [][]int64{{0}}},
		{[]int64{97}, 1, [][]int64{{0}}},
		{[]int64{97, 1488, 49, 32, 40, 9, 769}, 0, [][]int64{{0, 1, 2, 3, 4, 5, 6}}}, // classes do not cut
		{[]int64{bn}, 0, nil}, // nothing is kept
		{[]int64{rle, lro, bn, pdf, pdf, pdf}, 1, nil},
		{[]int64{bn, 97}, 0, [][]int64{{1}}}, // removed at the beginning
		{[]int64{bn, 173, 97, 98}, 0, [][]int64{{2, 3}}},
		{[]int64{97, bn}, 0, [][]int64{{0}}}, // at the end
		{[]int64{97, 98, rle, pdf}, 1, [][]int64{{0, 1}}},
		{[]int64{97, bn, 98, rle, pdf, 99}, 0, [][]int64{{0, 2, 5}}},           // within a run
		{[]int64{97, rle, 97, pdf, 97}, 0, [][]int64{{0}, {2}, {4}}},           // between runs
		{[]int64{97, bn, rle, bn, 97, 98, pdf, bn}, 0, [][]int64{{0}, {4, 5}}}, // everywhere
		{[]int64{rle, 97, pdf, rle, 98, pdf}, 0, [][]int64{{1, 4}}},            // two embeddings, as deep
		{[]int64{rle, 97, pdf, lre, 98, pdf}, 0, [][]int64{{1}, {4}}},          // not as deep
		{[]int64{rle, 97, lre, 98, pdf, 99}, 0, [][]int64{{1}, {3}, {5}}},      // the same level again is another run
		{[]int64{97, lri, 97, pdi, 97}, 0, [][]int64{{0, 1}, {2}, {3, 4}}},
		{[]int64{97, lri, pdi, 97}, 0, [][]int64{{0, 1, 2, 3}}}, // nothing cuts there
		{[]int64{lri, 97, pdi, lri, 98, pdi}, 0, [][]int64{{0}, {1}, {2, 3}, {4}, {5}}},
		{[]int64{rli, 97, rle, 98}, 0, [][]int64{{0}, {1}, {3}}},
	} {
		if got := impl.RunsOf(c.text, c.base); got.Code != impl.OK || !sameLists(got.Runs, c.want) {
			t.Error(c.text, c.base, got, c.want)
		}
	}
}

type sequenceCase struct {
	text []int64
	base int64
	want []impl.Sequence
}

func checkSequenceCases(t *testing.T, cases []sequenceCase) {
	t.Helper()
	for _, c := range cases {
		if got := impl.SequencesOf(c.text, c.base); got.Code != impl.OK || !equalSequences(got.List, c.want) {
			t.Error(c.text, c.base, got.List, c.want)
		}
	}
}

func TestSequencesOfRunsAlone(t *testing.T) {
	checkSequenceCases(t, []sequenceCase{
		{nil, 0, nil},
		{[]int64{}, 1, nil},
		{[]int64{bn, rle, pdf}, 1, nil},
		{[]int64{97}, 0, []impl.Sequence{seq(0, toL, toL, 0)}},
		{[]int64{97}, 1, []impl.Sequence{seq(1, toR, toR, 0)}},
		{[]int64{bn, 97, bn, 1488, bn}, 0, []impl.Sequence{seq(0, toL, toL, 1, 3)}},
		{[]int64{rle, 97, pdf, rle, 98, pdf}, 0, []impl.Sequence{seq(1, toR, toR, 1, 4)}},
	})
}

func TestSidesAtBothEnds(t *testing.T) {
	checkSequenceCases(t, []sequenceCase{
		// what is deeper tells, and the base where nothing stands there
		{[]int64{97, rle, 98, pdf, 99}, 0, []impl.Sequence{seq(0, toL, toR, 0), seq(1, toR, toR, 2), seq(0, toR, toL, 4)}},
		{[]int64{97, lre, 98, pdf, 99}, 1, []impl.Sequence{seq(1, toR, toL, 0), seq(2, toL, toL, 2), seq(1, toL, toR, 4)}},
		{[]int64{rle, 97, lre, 98, pdf, 99}, 0, []impl.Sequence{seq(1, toR, toL, 1), seq(2, toL, toL, 3), seq(1, toL, toR, 5)}},
		{[]int64{rle, 97}, 0, []impl.Sequence{seq(1, toR, toR, 1)}},
		{[]int64{lre, 97}, 1, []impl.Sequence{seq(2, toL, toL, 1)}},
		{[]int64{rle, 97, pdf, lre, 98}, 0, []impl.Sequence{seq(1, toR, toL, 1), seq(2, toL, toL, 4)}},
		{[]int64{rle, lre, 97, pdf, pdf, 98}, 0, []impl.Sequence{seq(2, toL, toL, 2), seq(0, toL, toL, 5)}},
		// what is removed has no level, but is looked over, on both sides
		{[]int64{97, bn, bn, rle, bn, 98, bn, pdf, bn, 99}, 0, []impl.Sequence{seq(0, toL, toR, 0), seq(1, toR, toR, 5), seq(0, toR, toL, 9)}},
		{[]int64{bn, lre, bn, 97, bn, pdf, bn, 98, bn}, 1, []impl.Sequence{seq(2, toL, toL, 3), seq(1, toL, toR, 7)}},
		{[]int64{bn, bn, 97, bn, bn}, 1, []impl.Sequence{seq(1, toR, toR, 2)}},
	})
}

func TestSequencesOverIsolates(t *testing.T) {
	checkSequenceCases(t, []sequenceCase{
		{[]int64{97, rli, 98, pdi, 99}, 0, []impl.Sequence{seq(0, toL, toL, 0, 1, 3, 4), seq(1, toR, toR, 2)}},
		{[]int64{97, lri, 98, pdi, 99}, 0, []impl.Sequence{seq(0, toL, toL, 0, 1, 3, 4), seq(2, toL, toL, 2)}},
		{[]int64{97, lri, 98, pdi, 99}, 1, []impl.Sequence{seq(1, toR, toR, 0, 1, 3, 4), seq(2, toL, toL, 2)}},
		{[]int64{fsi, 1488, pdi}, 0, []impl.Sequence{seq(0, toL, toL, 0, 2), seq(1, toR, toR, 1)}},
		{[]int64{rli, 98, pdi}, 0, []impl.Sequence{seq(0, toL, toL, 0, 2), seq(1, toR, toR, 1)}},
		{[]int64{bn, rli, bn, 98, bn, pdi, bn}, 0, []impl.Sequence{seq(0, toL, toL, 1, 5), seq(1, toR, toR, 3)}},
		// of nothing: both ends stand in one run, in which the match is not the first one
		{[]int64{97, rli, pdi, 98}, 0, []impl.Sequence{seq(0, toL, toL, 0, 1, 2, 3)}},
		{[]int64{rli, pdi}, 1, []impl.Sequence{seq(1, toR, toR, 0, 1)}},
		{[]int64{97, rli, bn, rle, pdf, pdi, 98}, 0, []impl.Sequence{seq(0, toL, toL, 0, 1, 5, 6)}},
		{[]int64{rli, pdi, rle, 97}, 0, []impl.Sequence{seq(0, toL, toR, 0, 1), seq(1, toR, toR, 3)}},
		{[]int64{rle, 97, pdf, rli, pdi}, 0, []impl.Sequence{seq(1, toR, toR, 1), seq(0, toR, toL, 3, 4)}},
		// one behind the other
		{[]int64{rli, 97, pdi, lri, 98, pdi}, 0, []impl.Sequence{seq(0, toL, toL, 0, 2, 3, 5), seq(1, toR, toR, 1), seq(2, toL, toL, 4)}},
		{[]int64{rli, 97, pdi, 98, rli, pdi, rli, 99, pdi}, 0, []impl.Sequence{seq(0, toL, toL, 0, 2, 3, 4, 5, 6, 8), seq(1, toR, toR, 1), seq(1, toR, toR, 7)}},
		// one within the other
		{[]int64{rli, lri, 97, pdi, pdi}, 0, []impl.Sequence{seq(0, toL, toL, 0, 4), seq(1, toR, toR, 1, 3), seq(2, toL, toL, 2)}},
		{[]int64{rli, 97, lri, 98, pdi, 99, pdi, 97}, 0, []impl.Sequence{seq(0, toL, toL, 0, 6, 7), seq(1, toR, toR, 1, 2, 4, 5), seq(2, toL, toL, 3)}},
		{[]int64{rli, rli, pdi, pdi}, 0, []impl.Sequence{seq(0, toL, toL, 0, 3), seq(1, toR, toR, 1, 2)}},
		// with embeddings in them, whose runs go on with none
		{[]int64{lri, 97, rle, 98, pdf, 99, pdi}, 0, []impl.Sequence{seq(0, toL, toL, 0, 6), seq(2, toL, toR, 1), seq(3, toR, toR, 3), seq(2, toR, toL, 5)}},
		{[]int64{rli, 97, lre, 98, pdi, 99}, 0, []impl.Sequence{seq(0, toL, toL, 0, 4, 5), seq(1, toR, toL, 1), seq(2, toL, toL, 3)}},
		// what is behind the last place tells, not what is behind the first run
		{[]int64{rli, 97, pdi, lre, rle, 98}, 0, []impl.Sequence{seq(0, toL, toR, 0, 2), seq(1, toR, toR, 1), seq(3, toR, toR, 5)}},
		{[]int64{lri, 97, pdi, rle, 98, pdf, 99}, 0, []impl.Sequence{seq(0, toL, toR, 0, 2), seq(2, toL, toL, 1), seq(1, toR, toR, 4), seq(0, toR, toL, 6)}},
	})
}

func TestSequencesBeginAtWhatMatchesNothingAhead(t *testing.T) {
	checkSequenceCases(t, []sequenceCase{
		// an end without a beginning is as any other character
		{[]int64{97, pdi, 98}, 0, []impl.Sequence{seq(0, toL, toL, 0, 1, 2)}},
		{[]int64{pdi}, 1, []impl.Sequence{seq(1, toR, toR, 0)}},
		{[]int64{rle, 97, pdf, pdi, 98}, 0, []impl.Sequence{seq(1, toR, toR, 1), seq(0, toR, toL, 3, 4)}},
		{[]int64{rli, 97, pdi, pdi, 98}, 0, []impl.Sequence{seq(0, toL, toL, 0, 2, 3, 4), seq(1, toR, toR, 1)}},
		{[]int64{rle, 97, pdf, pdi, rli, 98, pdi}, 0, []impl.Sequence{seq(1, toR, toR, 1), seq(0, toR, toL, 3, 4, 6), seq(1, toR, toR, 5)}},
		// so does one whose first character is matched behind it
		{[]int64{rle, 97, pdf, rli, 98, pdi}, 0, []impl.Sequence{seq(1, toR, toR, 1), seq(0, toR, toL, 3, 5), seq(1, toR, toR, 4)}},
		{[]int64{rle, 97, pdf, rli, 98}, 0, []impl.Sequence{seq(1, toR, toR, 1), seq(0, toR, toL, 3), seq(1, toR, toR, 4)}},
	})
}

func TestIsolatesWithoutAMatch(t *testing.T) {
	checkSequenceCases(t, []sequenceCase{
		// the base tells what is behind, however deep that is
		{[]int64{97, rli, 98}, 0, []impl.Sequence{seq(0, toL, toL, 0, 1), seq(1, toR, toR, 2)}},
		{[]int64{97, lri, 98}, 1, []impl.Sequence{seq(1, toR, toR, 0, 1), seq(2, toL, toL, 2)}},
		{[]int64{rli, bn, 98}, 0, []impl.Sequence{seq(0, toL, toL, 0), seq(1, toR, toR, 2)}},
		{[]int64{fsi, 1488}, 0, []impl.Sequence{seq(0, toL, toL, 0), seq(1, toR, toR, 1)}},
		{[]int64{rle, 97, lri, 98}, 0, []impl.Sequence{seq(1, toR, toR, 1, 2), seq(2, toL, toL, 3)}},
		{[]int64{lre, 97, rli, 98}, 1, []impl.Sequence{seq(2, toL, toL, 1, 2), seq(3, toR, toR, 3)}},
		// nothing is behind
		{[]int64{97, rli}, 0, []impl.Sequence{seq(0, toL, toL, 0, 1)}},
		{[]int64{97, lri, bn, pdf}, 1, []impl.Sequence{seq(1, toR, toR, 0, 1)}},
		// the one behind which a sequence went on has one, but the last one has not
		{[]int64{rli, 97, pdi, rli, 98}, 0, []impl.Sequence{seq(0, toL, toL, 0, 2, 3), seq(1, toR, toR, 1), seq(1, toR, toR, 4)}},
		{[]int64{rli, lri, 97, pdi, 98}, 0, []impl.Sequence{seq(0, toL, toL, 0), seq(1, toR, toR, 1, 3, 4), seq(2, toL, toL, 2)}},
		{[]int64{rli, lri, rli, 97}, 0, []impl.Sequence{seq(0, toL, toL, 0), seq(1, toR, toR, 1), seq(2, toL, toL, 2), seq(3, toR, toR, 3)}},
		// what is ahead tells as ever
		{[]int64{rle, 97, pdf, lri, 98}, 0, []impl.Sequence{seq(1, toR, toR, 1), seq(0, toR, toL, 3), seq(2, toL, toL, 4)}},
	})
}

// What a way is told of becomes of another class, but it is by what it was that it opens an isolate or ends it.
func TestSequencesUnderAWay(t *testing.T) {
	checkSequenceCases(t, []sequenceCase{
		{[]int64{rlo, 97, lri, 98, pdi, 99, pdf}, 0, []impl.Sequence{seq(1, toR, toR, 1, 2, 4, 5), seq(2, toL, toL, 3)}},
		{[]int64{lro, rli, 98, pdi}, 0, []impl.Sequence{seq(2, toL, toL, 1, 3), seq(3, toR, toR, 2)}},
		{[]int64{rlo, lri, 97}, 0, []impl.Sequence{seq(1, toR, toR, 1), seq(2, toL, toL, 2)}},
		{[]int64{lro, 97, fsi, 1488}, 1, []impl.Sequence{seq(2, toL, toL, 1, 2), seq(3, toR, toR, 3)}},
		{[]int64{97, rlo, pdi, 98}, 0, []impl.Sequence{seq(0, toL, toR, 0), seq(1, toR, toR, 2, 3)}},
		{[]int64{rlo, 97, lro, pdi}, 0, []impl.Sequence{seq(1, toR, toL, 1), seq(2, toL, toL, 3)}},
	})
}

func TestSequencesOverLostIsolates(t *testing.T) {
	to124, to122 := many(lre, 62), many(lre, 61)
	with := func(ahead []int64, text ...int64) []int64 { return slices.Concat(ahead, text) }
	checkSequenceCases(t, []sequenceCase{
		{with(to124, 97, lri, 98, pdi, 99), 0, []impl.Sequence{seq(124, toL, toL, 62, 63, 64, 65, 66)}},
		{with(to124, 97, rli, 98, pdi, 99), 0, []impl.Sequence{seq(124, toL, toL, 62, 63, 65, 66), seq(125, toR, toR, 64)}}, // there is room for that
		{with(to124, 97, lri, 98), 1, []impl.Sequence{seq(124, toL, toL, 62, 63, 64)}},
		{with(to124, 97, lri), 1, []impl.Sequence{seq(124, toL, toL, 62, 63)}},
		{with(to124, lre, rli, 97, pdi), 0, []impl.Sequence{seq(124, toL, toL, 63, 64, 65)}}, // lost with an embedding
		{with(to124, lri, rli, 97, pdi, 98, pdi), 0, []impl.Sequence{seq(124, toL, toL, 62, 63, 64, 65, 66, 67)}},
		{with(to124, rli, rli, 97, pdi, pdi), 0, []impl.Sequence{seq(124, toL, toL, 62, 66), seq(125, toR, toR, 63, 64, 65)}},
		{with(to122, rli, lri, lri, 97, pdi, pdi, pdi), 0, []impl.Sequence{seq(122, toL, toL, 61, 67), seq(123, toR, toR, 62, 66), seq(124, toL, toL, 63, 64, 65)}},
		{with(to122, rle, lri, 97, lri, 98, pdi, pdi, 99), 0, []impl.Sequence{seq(123, toR, toR, 62, 67, 68), seq(124, toL, toL, 63, 64, 65, 66)}},
		{with(many(rle, 63), 97, rli, pdi, rli, 98), 0, []impl.Sequence{seq(125, toR, toR, 63, 64, 65, 66, 67)}},
		{with(to124, lri, 97, pdf, 98, pdi, pdf, 99), 0, []impl.Sequence{seq(124, toL, toL, 62, 63, 65, 66), seq(122, toL, toL, 68)}},
		{with(many(rle, 63), rli, 97, pdi, pdf, lre, 98), 0, []impl.Sequence{seq(125, toR, toR, 63, 64, 65), seq(124, toR, toL, 68)}},
	})
}

func TestSequencesOfAFullText(t *testing.T) {
	apart := impl.SequencesOf(slices.Repeat([]int64{rli, 97, pdi}, impl.MaxText/3), 0)
	if apart.Code != impl.OK || len(apart.List) != impl.MaxText/3+1 || len(apart.List[0].Places) != impl.MaxText/3*2 {
		t.Fatal("one behind the other", apart.Code, len(apart.List))
	}
	for i, s := range apart.List[1:] {
		if !equalSequences([]impl.Sequence{s}, []impl.Sequence{seq(1, toR, toR, int64(3*i+1))}) {
			t.Error(i, s)
		}
	}
	nested := impl.SequencesOf(slices.Concat(many(rli, impl.MaxText/2), many(pdi, impl.MaxText/2)), 0)
	if nested.Code != impl.OK || len(nested.List) != 64 {
		t.Fatal("one within the other", nested.Code, len(nested.List))
	}
	for i, s := range nested.List[:63] { // each opens and ends one isolate; the others are lost in the last one
		level := max(2*int64(i)-1, 0)
		if want := seq(level, level&1, level&1, int64(i), int64(impl.MaxText-1-i)); !equalSequences([]impl.Sequence{s}, []impl.Sequence{want}) {
			t.Error(i, s, want)
		}
	}
	if last := nested.List[63]; last.Level != 125 || len(last.Places) != impl.MaxText-2*63 {
		t.Error("the last one", last)
	}
}

func TestSequencesOfAllKinds(t *testing.T) {
	both := func(text []int64) {
		checkSequences(t, text, 0)
		checkSequences(t, text, 1)
	}
	allStrings(tellers(), 3, both)
	allStrings([]int64{97, rle, pdf, lri, rli, pdi}, 5, both)
	allStrings([]int64{97, lre, rle, pdf, lri, rli, pdi}, 4, func(text []int64) {
		checkSequences(t, slices.Concat(many(lre, 62), text), 0)
	})
	r := rand.New(rand.NewSource(8))
	letters := append(tellers(), lri, rli, pdi, pdi, 49, 9, 769)
	for range 1500 {
		both(randomText(r, letters, r.Intn(40)))
		both(append(randomText(r, []int64{lre, rle, lro, rlo, lri, rli, fsi, 97}, 55+r.Intn(50)), randomText(r, letters, r.Intn(80))...))
	}
	for range 10 {
		both(randomText(r, letters, impl.MaxText))
		both(append(randomText(r, []int64{lri, rli, fsi, 97}, impl.MaxText/2), randomText(r, []int64{97, pdi, pdi, 1488}, impl.MaxText/2)...))
	}
}

func checkSequences(t *testing.T, text []int64, base int64) {
	runs, sequences := impl.RunsOf(text, base), impl.SequencesOf(text, base)
	if want := runsByNeighbours(text, base); runs.Code != impl.OK || !sameLists(runs.Runs, want) {
		t.Fatal("runs", text, base, runs, want)
	}
	if want := sequencesByLinks(text, base); sequences.Code != impl.OK || !equalSequences(sequences.List, want) {
		t.Fatal("sequences", text, base, sequences, want)
	}
	checkEachIsInOne(t, text, base, runs.Runs, sequences.List)
}

// Promise 6: each kept character is in one run, and in one sequence, of its level.
func checkEachIsInOne(t *testing.T, text []int64, base int64, runs [][]int64, sequences []impl.Sequence) {
	levels := impl.ExplicitOf(text, base).Levels
	inRuns, inSequences := make([]int, len(text)), make([]int, len(text))
	for _, run := range runs {
		for _, place := range run {
			inRuns[place]++
			if levels[place] != levels[run[0]] {
				t.Fatal("a run of two levels", text, base, run)
			}
		}
	}
	for _, s := range sequences {
		for _, place := range s.Places {
			inSequences[place]++
			if levels[place] != s.Level {
				t.Fatal("a sequence of another level", text, base, s)
			}
		}
	}
	for place, level := range levels {
		want := 1
		if level == impl.NoLevel {
			want = 0
		}
		if inRuns[place] != want || inSequences[place] != want {
			t.Fatal("promise 6", text, base, place, inRuns[place], inSequences[place])
		}
	}
}

func TestSequencesOfEachClass(t *testing.T) {
	atTheEnds(func(c int64) {
		if classByList(c) != impl.ClassB {
			checkSequences(t, []int64{c}, 1)
			checkSequences(t, []int64{rle, 97, pdf, c, rle, 97, pdi, 98}, 0)
			checkSequences(t, []int64{97, rli, 98, c, 97}, 0)
		}
	})
}

func TestSequencesAskParaFault(t *testing.T) {
	askParaFault(t, checkSequenceFault)
}

// checkSequenceFault asks that there is nothing beside a code.
func checkSequenceFault(t *testing.T, text []int64, base, want int64) {
	t.Helper()
	if got := impl.RunsOf(text, base); got.Code != want || want != impl.OK && len(got.Runs) != 0 {
		t.Error("runs", len(text), base, got.Code, want)
	}
	if got := impl.SequencesOf(text, base); got.Code != want || want != impl.OK && len(got.List) != 0 {
		t.Error("sequences", len(text), base, got.Code, want)
	}
}

func TestSideOf(t *testing.T) {
	for level := int64(-500); level <= 500; level += 2 {
		if even, odd := impl.SideOf(level), impl.SideOf(level+1); even != toL || odd != toR {
			t.Error(level, even, odd)
		}
	}
	for _, c := range []struct{ level, want int64 }{
		{0, toL}, {1, toR}, {-1, toR}, {-2, toL}, {124, toL}, {125, toR}, {126, toL},
		{1 << 32, toL}, {1<<32 + 1, toR}, {-1 << 32, toL}, {-1<<32 - 1, toR}, {1 << 62, toL}, {1<<62 + 1, toR},
		{math.MaxInt64, toR}, {math.MaxInt64 - 1, toL}, {math.MinInt64, toL}, {math.MinInt64 + 1, toR},
	} {
		if got := impl.SideOf(c.level); got != c.want {
			t.Error(c.level, got)
		}
	}
}

func TestSameSequences(t *testing.T) {
	one := func(level, sos, eos int64, places ...int64) []impl.Sequence {
		return []impl.Sequence{seq(level, sos, eos, places...)}
	}
	a, b := seq(1, toR, toL, 2, 3), seq(2, toL, toR, 5)
	for _, c := range []struct {
		a, b []impl.Sequence
		want bool
	}{
		{nil, nil, true},
		{nil, []impl.Sequence{}, true},
		{[]impl.Sequence{{}}, []impl.Sequence{{Places: []int64{}}}, true}, // so of what is in them
		{[]impl.Sequence{a}, one(1, toR, toL, 2, 3), true},
		{[]impl.Sequence{a, b}, []impl.Sequence{a, b}, true},
		{one(-7, 99, math.MinInt64, -1, math.MaxInt64, -1), one(-7, 99, math.MinInt64, -1, math.MaxInt64, -1), true}, // of any
		{[]impl.Sequence{a}, one(2, toR, toL, 2, 3), false},
		{[]impl.Sequence{a}, one(1, toL, toL, 2, 3), false},
		{[]impl.Sequence{a}, one(1, toR, toR, 2, 3), false},
		{[]impl.Sequence{a}, one(1, toL, toR, 2, 3), false},
		{[]impl.Sequence{a}, one(1, toR, toL, 2, 4), false},
		{[]impl.Sequence{a}, one(1, toR, toL, 1, 3), false},
		{[]impl.Sequence{a}, one(1, toR, toL, 3, 2), false},
		{[]impl.Sequence{a}, one(1, toR, toL, 2), false},
		{[]impl.Sequence{a}, one(1, toR, toL, 3), false},
		{[]impl.Sequence{a}, one(1, toR, toL, 2, 3, 3), false},
		{[]impl.Sequence{a}, one(1, toR, toL), false},
		{one(1<<32, 0, 0), one(0, 0, 0), false},
		{one(0, 1<<32, 0), one(0, 0, 0), false},
		{one(0, 0, 1<<32), one(0, 0, 0), false},
		{one(0, 0, 0, 1<<32), one(0, 0, 0, 0), false},
		{[]impl.Sequence{{}}, nil, false},
		{[]impl.Sequence{a, b}, []impl.Sequence{b, a}, false},
		{[]impl.Sequence{a, b}, []impl.Sequence{a}, false},
		{[]impl.Sequence{a, b}, []impl.Sequence{b}, false},
		{[]impl.Sequence{a, b}, []impl.Sequence{a, a}, false}, // each is asked, not the first one alone
		{[]impl.Sequence{a, b}, []impl.Sequence{b, b}, false},
		{[]impl.Sequence{a, a}, []impl.Sequence{a}, false},
	} {
		if impl.SameSequences(c.a, c.b) != c.want || impl.SameSequences(c.b, c.a) != c.want {
			t.Error(c)
		}
	}
}

func TestSameSequencesChangesNothing(t *testing.T) {
	fresh := func() (a, b []impl.Sequence) {
		a = roomy(seq(1, toR, toL, roomy[int64](3, 1)...), seq(0, toL, toL, roomy[int64](2)...))
		return a, roomy(a[1], a[0])
	}
	a, b := fresh()
	if impl.SameSequences(a, b) || !impl.SameSequences(a, a) {
		t.Error("told", a, b)
	}
	wantA, wantB := fresh()
	if !reflect.DeepEqual(a[:cap(a)], wantA[:cap(wantA)]) || !reflect.DeepEqual(b[:cap(b)], wantB[:cap(wantB)]) {
		t.Error("changed", a, b)
	}
}

func sharingTexts() [][]int64 {
	return [][]int64{
		nil, {97}, {bn}, {97, 98, rle, 97, 98, pdf, 97, 98}, {97, rli, 98, pdi, 99, rli, 100}, {rli, pdi, 97, 97}, {rlo, 97, lri, pdi, bn, 97, pdf, 98},
		append(many(lre, 70), lri, 97, pdi), {10}, {-1}, make([]int64, 601),
	}
}

// Promise 1 as far as chapter 5 goes: no argument is changed, what is answered is new memory, and it hangs on the arguments alone.
func TestSequencesShareNothing(t *testing.T) {
	for _, list := range sharingTexts() {
		text := roomy(list...)
		before := slices.Clone(text[:cap(text)])
		runs, sequences := impl.RunsOf(text, 1), impl.SequencesOf(text, 1)
		runsAgain, sequencesAgain := impl.RunsOf(text, 1), impl.SequencesOf(text, 1)
		if !reflect.DeepEqual(runs, runsAgain) || !reflect.DeepEqual(sequences, sequencesAgain) {
			t.Error("two answers", list)
		}
		for _, run := range runsAgain.Runs {
			scribble(run, 40)
		}
		for _, s := range sequencesAgain.List {
			scribble(s.Places, 40)
		}
		scribble(runsAgain.Runs, []int64{41})
		scribble(sequencesAgain.List, seq(42, 43, 44, 45))
		if !slices.Equal(text[:cap(text)], before) {
			t.Error("changed", text)
		}
		scribble(text, 7)
		if !reflect.DeepEqual(runs, impl.RunsOf(list, 1)) || !reflect.DeepEqual(sequences, impl.SequencesOf(list, 1)) {
			t.Error("shared", list, runs, sequences)
		}
	}
}

// No two lists within one answer share memory: to write over one, and behind it, leaves all others as they were.
func TestSequencesShareNothingAmongThemselves(t *testing.T) {
	for _, text := range sharingTexts() {
		runs, sequences := impl.RunsOf(text, 0).Runs, impl.SequencesOf(text, 0).List
		for i := range runs {
			got := impl.RunsOf(text, 0).Runs
			scribble(got[i], 40)
			if !sameLists(slices.Delete(got, i, i+1), slices.Delete(slices.Clone(runs), i, i+1)) {
				t.Error("runs", text, i, got)
			}
		}
		for i := range sequences {
			got := impl.SequencesOf(text, 0).List
			scribble(got[i].Places, 40)
			if !equalSequences(slices.Delete(got, i, i+1), slices.Delete(slices.Clone(sequences), i, i+1)) {
				t.Error("sequences", text, i, got)
			}
		}
	}
}
