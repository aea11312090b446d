package tests

import (
	"math"
	"slices"
	"testing"

	"loop.example/g00739/impl"
)

func TestClassesHaveTheirNumbers(t *testing.T) {
	got := []int64{
		impl.ClassL, impl.ClassR, impl.ClassAL, impl.ClassEN, impl.ClassES, impl.ClassET, impl.ClassAN, impl.ClassCS,
		impl.ClassNSM, impl.ClassBN, impl.ClassB, impl.ClassS, impl.ClassWS, impl.ClassON, impl.ClassLRE, impl.ClassRLE,
		impl.ClassPDF, impl.ClassLRO, impl.ClassRLO, impl.ClassLRI, impl.ClassRLI, impl.ClassFSI, impl.ClassPDI,
	}
	for i, class := range got {
		if class != int64(i) {
			t.Error(i, class)
		}
	}
	if len(got) != 23 {
		t.Error("classes", len(got))
	}
}

// Each class at the first and the last number of every range, and at the numbers beside them.
func TestClassOfAtTheEnds(t *testing.T) {
	for _, r := range allClasses() {
		for _, c := range []int64{r.first, (r.first + r.last) / 2, r.last} {
			if got := impl.ClassOf(c); got != (impl.IntResult{Value: r.class}) {
				t.Error(c, got, r.class)
			}
		}
	}
}

func TestClassOfEveryCharacter(t *testing.T) {
	rows := allClasses()
	someChars(func(c int64) {
		if c > rows[0].last {
			rows = rows[1:]
		}
		if got := impl.ClassOf(c); got != (impl.IntResult{Value: rows[0].class}) {
			t.Fatal(c, got, rows[0])
		}
	})
}

// What two ranges have is of the first one, each time that it is asked: nothing hangs on the order of a map.
func TestClassOfKeepsToTheFirstRange(t *testing.T) {
	for c, class := range map[int64]int64{
		9: impl.ClassS, 10: impl.ClassB, 13: impl.ClassB, 35: impl.ClassET, 37: impl.ClassET, 43: impl.ClassES, 44: impl.ClassCS, 46: impl.ClassCS,
		47: impl.ClassCS, 48: impl.ClassEN, 57: impl.ClassEN, 58: impl.ClassCS, 65: impl.ClassL, 122: impl.ClassL, 127: impl.ClassBN, 159: impl.ClassBN, 173: impl.ClassBN,
	} {
		for range 300 {
			if got := impl.ClassOf(c); got.Value != class {
				t.Fatal(c, got)
			}
		}
	}
}

// Promise 3: the mirror of a mirror is what it was.
func TestMirrorOf(t *testing.T) {
	want := map[int64]int64{}
	for _, p := range mirrorPairs() {
		want[p[0]], want[p[1]] = p[1], p[0]
	}
	someChars(func(c int64) {
		other, paired := want[c]
		if !paired {
			other = c
		}
		m := impl.MirrorOf(c)
		if m != (impl.IntResult{Value: other}) || impl.MirrorOf(m.Value) != (impl.IntResult{Value: c}) {
			t.Fatal(c, m)
		}
	})
}

// Promise 3: brackets have partners.
func TestBracketOf(t *testing.T) {
	names := bracketNames()
	someChars(func(c int64) {
		b := impl.BracketOf(c)
		name, bracket := names[c]
		if !bracket {
			if b != (impl.BracketResult{Code: impl.ErrNone}) {
				t.Fatal("none", c, b)
			}
			return
		}
		if b != (impl.BracketResult{Open: name > 0, Name: max(name, -name)}) {
			t.Fatal(c, b)
		}
		if other := impl.BracketOf(impl.MirrorOf(c).Value); other.Code != impl.OK || other.Name != b.Name || other.Open == b.Open {
			t.Fatal("partner", c, b, other)
		}
	})
}

func TestIsRemoved(t *testing.T) {
	removed := []int64{9, 14, 15, 16, 17, 18}
	for class := int64(-70); class < 300; class++ {
		if impl.IsRemoved(class) != slices.Contains(removed, class) {
			t.Error(class)
		}
	}
	for _, class := range []int64{math.MinInt64, math.MaxInt64, 1<<32 + 9, 1<<8 + 9, -9} {
		if impl.IsRemoved(class) {
			t.Error(class)
		}
	}
}

func TestIsShown(t *testing.T) {
	hidden := []int64{9, 10, 14, 15, 16, 17, 18, 19, 20, 21, 22}
	rows := allClasses()
	someChars(func(c int64) {
		if c > rows[0].last {
			rows = rows[1:]
		}
		if impl.IsShown(c) == slices.Contains(hidden, rows[0].class) {
			t.Fatal(c, rows[0])
		}
	})
	for _, c := range noChars() {
		if impl.IsShown(c) {
			t.Error(c)
		}
	}
}

// Promise 3: each form is that of its letter, and of no other one.
func TestFormsOfAllLetters(t *testing.T) {
	letters := letterForms()
	someChars(func(c int64) {
		n, forms := impl.FormsOf(c), letters[c]
		if len(forms) > 0 && n != (impl.IntResult{Value: int64(len(forms))}) || len(forms) == 0 && n != (impl.IntResult{Code: impl.ErrNone}) {
			t.Fatal(c, n)
		}
		for _, joined := range [][2]bool{{false, false}, {true, false}, {false, true}, {true, true}} {
			want := impl.IntResult{Code: impl.ErrNone}
			if len(forms) > 0 {
				want = impl.IntResult{Value: formByList(forms, joined[0], joined[1])}
			}
			if got := impl.FormOf(c, joined[0], joined[1]); got != want {
				t.Fatal(c, joined, got, want)
			}
		}
	})
}

func TestFormsAreTakenOnce(t *testing.T) {
	letterOf := map[int64]int64{}
	for c := int64(0); c < 3000; c++ {
		for _, joined := range [][2]bool{{false, false}, {true, false}, {false, true}, {true, true}} {
			f := impl.FormOf(c, joined[0], joined[1])
			if f.Code != impl.OK {
				continue
			}
			if other, taken := letterOf[f.Value]; taken && other != c {
				t.Error(f.Value, other, c)
			}
			letterOf[f.Value] = c
		}
	}
	for form := int64(65152); form <= 65268; form++ {
		if letterOf[form] == 0 {
			t.Error("of no letter", form)
		}
	}
	if len(letterOf) != 65268-65152+1 {
		t.Error(len(letterOf))
	}
}

func TestLigatureOf(t *testing.T) {
	want := map[int64]int64{1570: 65269, 1571: 65271, 1573: 65273, 1575: 65275}
	someChars(func(c int64) {
		alone, joined := impl.LigatureOf(c, false), impl.LigatureOf(c, true)
		if want[c] == 0 {
			if none := (impl.IntResult{Code: impl.ErrNone}); alone != none || joined != none {
				t.Fatal(c, alone, joined)
			}
			return
		}
		if alone != (impl.IntResult{Value: want[c]}) || joined != (impl.IntResult{Value: want[c] + 1}) {
			t.Fatal(c, alone, joined)
		}
	})
}

// ErrRange is asked by all that tell a code, ahead of ErrNone, and all else is zero then.
func TestNoCharacterHasNothing(t *testing.T) {
	none := impl.IntResult{Code: impl.ErrRange}
	for _, c := range noChars() {
		if got := impl.ClassOf(c); got != none {
			t.Error("class", c, got)
		}
		if got := impl.MirrorOf(c); got != none {
			t.Error("mirror", c, got)
		}
		if got := impl.BracketOf(c); got != (impl.BracketResult{Code: impl.ErrRange}) {
			t.Error("bracket", c, got)
		}
		if got := impl.FormsOf(c); got != none {
			t.Error("forms", c, got)
		}
		for _, joined := range [][2]bool{{false, false}, {true, false}, {false, true}, {true, true}} {
			if got := impl.FormOf(c, joined[0], joined[1]); got != none {
				t.Error("form", c, joined, got)
			}
			if got := impl.LigatureOf(c, joined[0]); got != none {
				t.Error("ligature", c, joined, got)
			}
		}
	}
	for _, c := range []int64{0, 55295, 57344, impl.MaxChar} {
		if impl.ClassOf(c).Code != impl.OK || impl.MirrorOf(c).Code != impl.OK || impl.BracketOf(c).Code != impl.ErrNone ||
			impl.FormsOf(c).Code != impl.ErrNone || impl.FormOf(c, true, true).Code != impl.ErrNone || impl.LigatureOf(c, true).Code != impl.ErrNone {
			t.Error("a character", c)
		}
	}
}

// Promise 1 as far as chapter 2 goes: the same again, whatever was asked between.
func TestTablesAnswerTheSameAgain(t *testing.T) {
	type all struct {
		class, mirror, forms, form, ligature impl.IntResult
		bracket                              impl.BracketResult
		shown                                bool
	}
	ask := func(c int64) all {
		return all{impl.ClassOf(c), impl.MirrorOf(c), impl.FormsOf(c), impl.FormOf(c, true, true), impl.LigatureOf(c, true), impl.BracketOf(c), impl.IsShown(c)}
	}
	first := map[int64]all{}
	for c := int64(-50); c < 9100; c++ {
		first[c] = ask(c)
	}
	for c := int64(9099); c >= -50; c-- {
		if again := ask(c); again != first[c] {
			t.Fatal(c, first[c], again)
		}
	}
}
