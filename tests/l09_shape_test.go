package tests

import (
	"math/rand"
	"reflect"
	"slices"
	"testing"

	"loop.example/g00739/impl"
)

// A shapeCase is written in joinSigns, and its answer with one sign for each place: the number of the form (0 alone, 1 joined to
// what is ahead, 2 to what is behind, 3 to both), a point for what stays, L for a ligature, J for a joined one, - for what is gone.
type shapeCase struct{ text, want string }

var joinSigns = map[rune]int64{
	'h': 1569,                                  // does not join
	'd': 1583, 'r': 1585, 'w': 1608, 't': 1577, // join to one side alone
	'1': 1570, '2': 1571, '3': 1573, '4': 1575, // so do these, and make ligatures
	'b': 1576, 'y': 1610, 's': 1587, 'l': 1604, // join to both
	'_': 1600, '´': 1611, '`': 769,
	'x': 97, 'A': 1488, '8': 1632, ' ': 32, '·': 8203, '/': 8233, '→': 8234, '▷': 8294, '△': 8297,
}

func joined(signs string) []int64 {
	var text []int64
	for _, sign := range signs {
		c, known := joinSigns[sign]
		if !known {
			panic("no sign: " + string(sign))
		}
		text = append(text, c)
	}
	return text
}

func shapedAs(text []int64, signs string) []int64 {
	shaped := slices.Clone(text)
	for i, sign := range signs {
		switch sign {
		case '-':
			shaped[i] = -1
		case 'L', 'J':
			shaped[i] = ligatureByList(text[i+1], sign == 'J')
		case '0', '1', '2', '3':
			shaped[i] = formsByList[text[i]][sign-'0']
		}
	}
	return shaped
}

func checkShapeCases(t *testing.T, cases []shapeCase) {
	t.Helper()
	for _, c := range cases {
		text := joined(c.text)
		if len(text) != len(c.want) {
			t.Fatal("not as many", c)
		}
		got := impl.ShapeOf(text)
		if want := shapedAs(text, c.want); got.Code != impl.OK || !slices.Equal(got.Text, want) {
			t.Errorf("%q: code %d, %v and not %v", c.text, got.Code, got.Text, want)
		}
	}
}

func TestJoinsOfEachLetter(t *testing.T) {
	both := []int64{
		1574, 1576, 1578, 1579, 1580, 1581, 1582, 1587, 1588, 1589, 1590, 1591, 1592, 1593, 1594,
		1601, 1602, 1603, 1604, 1605, 1606, 1607, 1610, impl.Stretch,
	}
	before := []int64{1570, 1571, 1572, 1573, 1575, 1577, 1583, 1584, 1585, 1586, 1608, 1609}
	for _, c := range both {
		if !impl.JoinsAfter(c) || !impl.JoinsBefore(c) {
			t.Error("both", c)
		}
	}
	for _, c := range before {
		if impl.JoinsAfter(c) || !impl.JoinsBefore(c) {
			t.Error("before", c)
		}
	}
	for _, c := range []int64{0, 32, 97, 769, 1488, 1568, 1569, 1595, 1599, 1611, 1618, 1632, 65152, 65167, 65169, 65268, 65269, 65276, impl.MaxChar} {
		if impl.JoinsAfter(c) || impl.JoinsBefore(c) {
			t.Error("none", c)
		}
	}
	if len(both)+len(before) != 36 || impl.Stretch != 1600 || impl.Gone != -1 {
		t.Error(len(both), len(before), impl.Stretch, impl.Gone)
	}
}

func TestJoinsOfEveryCharacter(t *testing.T) {
	someChars(func(c int64) {
		if impl.JoinsAfter(c) != joinsAfterByList(c) || impl.JoinsBefore(c) != joinsBeforeByList(c) {
			t.Fatal(c)
		}
	})
	for _, c := range append(noChars(), 1<<32+impl.Stretch, 1<<32+1576, -impl.Stretch, -1576) {
		if impl.JoinsAfter(c) || impl.JoinsBefore(c) {
			t.Error("no character", c)
		}
	}
}

func TestShapeOfTheDocument(t *testing.T) {
	for _, c := range []struct{ text, want []int64 }{
		{[]int64{1576, 1576}, []int64{65169, 65168}},
		{[]int64{1604, 1575}, []int64{65275, -1}},
	} {
		if got := impl.ShapeOf(c.text); got.Code != impl.OK || !slices.Equal(got.Text, c.want) {
			t.Error(c, got)
		}
	}
}

func TestShapeOfLettersInARow(t *testing.T) {
	checkShapeCases(t, []shapeCase{
		{"", ""},
		{"h", "0"}, {"d", "0"}, {"4", "0"}, {"b", "0"}, {"l", "0"}, {"_", "."}, {"x", "."},
		{"hh", "00"}, {"dd", "00"}, {"44", "00"}, {"bb", "21"}, {"ll", "21"}, {"__", ".."}, {"xx", ".."},
		{"hhh", "000"}, {"ddd", "000"}, {"444", "000"}, {"bbb", "231"}, {"lll", "231"}, {"___", "..."}, {"xxx", "..."},
		{"bbbb", "2331"},
		{"bsyl", "2331"},
	})
	if got := impl.ShapeOf([]int64{}); got.Code != impl.OK || len(got.Text) != 0 {
		t.Error("empty", got)
	}
}

func TestLettersThatJoinToOneSide(t *testing.T) {
	checkShapeCases(t, []shapeCase{
		{"bd", "21"},
		{"db", "00"},
		{"bdb", "210"},
		{"dbd", "021"},
		{"bbdbb", "23121"},
		{"bh", "00"},
		{"hb", "00"},
		{"bhb", "000"},
		{"hd", "00"},
		{"dh", "00"},
		{"br", "21"},
		{"bw", "21"},
		{"bt", "21"},
		{"b1", "21"},
		{"b2", "21"},
		{"b3", "21"},
		{"b4", "21"},
		{"4b", "00"},
		{"ld", "21"},
		{"lw", "21"},
		{"dl", "00"},
	})
}

func TestShapeBesideStrangers(t *testing.T) {
	checkShapeCases(t, []shapeCase{
		{"xb", ".0"},
		{"bx", "0."},
		{"bxb", "0.0"},
		{"b b", "0.0"},
		{"bAb", "0.0"},
		{"b8b", "0.0"},
		{"bb bb", "21.21"},
		// what is not seen parts letters, too: it is no mark
		{"b·b", "0.0"},
		{"b→b", "0.0"},
		{"b▷b△b", "0.0.0"},
		{"b/b", "0.0"},
		{"l·4", "0.0"},
		{"l/4", "0.0"},
		{"/", "."},
	})
}

func TestShapeOverMarks(t *testing.T) {
	checkShapeCases(t, []shapeCase{
		// between
		{"b´b", "2.1"},
		{"b`b", "2.1"},
		{"b´`´b", "2...1"},
		{"b´bb", "2.31"},
		{"bb´b", "23.1"},
		{"b´b´b", "2.3.1"},
		{"b´d", "2.1"},
		{"d´b", "0.0"},
		{"b´h", "0.0"},
		{"h´b", "0.0"},
		{"b´x", "0.."},
		{"x´b", "..0"},
		{"b´x´b", "0...0"},
		{"b´ b", "0..0"},
		// ahead of the first one, and behind the last one
		{"´b", ".0"},
		{"b´", "0."},
		{"´b´", ".0."},
		{"´´bb", "..21"},
		{"bb´´", "21.."},
		{"´bd´", ".21."},
		// alone
		{"´", "."},
		{"´`", ".."},
		{"´´´", "..."},
		// of a stretch
		{"_´b", "..1"},
		{"b´_", "2.."},
		{"_´_", "..."},
	})
}

func TestShapeBesideStretch(t *testing.T) {
	checkShapeCases(t, []shapeCase{
		{"_b", ".1"},
		{"b_", "2."},
		{"_b_", ".3."},
		{"b_b", "2.1"},
		{"b__b", "2..1"},
		{"_d", ".1"},
		{"d_", "0."},
		{"_d_", ".1."},
		{"d_d", "0.1"},
		{"_h", ".0"},
		{"h_", "0."},
		{"_h_", ".0."},
		{"_x", ".."},
		{"b_x", "2.."},
		{"x_b", "..1"},
		{"_ b", "..0"},
		{"_4", ".1"},
		{"_l4", ".J-"},
		{"l_4", "2.1"},
		{"l4_", "L-."},
	})
}

func TestLigatures(t *testing.T) {
	checkShapeCases(t, []shapeCase{
		{"l1", "L-"}, {"l2", "L-"}, {"l3", "L-"}, {"l4", "L-"},
		{"bl1", "2J-"}, {"bl2", "2J-"}, {"bl3", "2J-"}, {"bl4", "2J-"},
		{"dl1", "0L-"}, {"dl2", "0L-"}, {"dl3", "0L-"}, {"dl4", "0L-"},
		// at the beginning, in the middle and at the end
		{"l4x", "L-."}, {"l4b", "L-0"}, {"l4bb", "L-21"},
		{"xl4x", ".L-."}, {"bl4b", "2J-0"}, {"dl4b", "0L-0"}, {"hl4h", "0L-0"}, {"xl4b", ".L-0"}, {"bl4x", "2J-."},
		{"xl4", ".L-"}, {"bbl4", "23J-"}, {"hl4", "0L-"}, {"4l4", "0L-"}, {"bdl4", "21L-"},
		// over marks to what is ahead
		{"b´l4", "2.J-"}, {"d´l4", "0.L-"}, {"´l4", ".L-"}, {"x´l4", "..L-"},
		// two in a row
		{"l4l4", "L-L-"}, {"l1l3", "L-L-"}, {"bl4l2", "2J-L-"}, {"l4l4l4", "L-L-L-"}, {"l4bl4", "L-2J-"},
		// one behind the other
		{"ll4", "2J-"}, {"lll4", "23J-"}, {"dll1", "02J-"}, {"bll1", "23J-"},
		{"l44", "L-0"}, {"l14b", "L-00"},
	})
}

func TestLigaturesThatAreNone(t *testing.T) {
	checkShapeCases(t, []shapeCase{
		{"l´1", "2.1"}, {"l´2", "2.1"}, {"l´3", "2.1"}, {"l´4", "2.1"},
		{"l`4", "2.1"}, {"l´´4", "2..1"}, {"bl´4", "23.1"}, {"dl´4b", "02.10"},
		{"l´", "0."}, {"´l", ".0"},
		{"l 4", "0.0"}, {"lx4", "0.0"},
		{"4l", "00"}, {"1l", "00"}, {"b4l", "210"},
		{"b4", "21"}, {"s1", "21"}, {"y2", "21"},
		{"l", "0"}, {"bl", "21"}, {"lb", "21"}, {"lb4", "231"}, {"lh", "00"},
		{"4", "0"}, {"1", "0"},
	})
}

// The letter that is gone is still what stands ahead of those behind it, and joins to none of them.
func TestShapeBehindWhatIsGone(t *testing.T) {
	checkShapeCases(t, []shapeCase{
		{"l4b", "L-0"}, {"l4d", "L-0"}, {"l4h", "L-0"}, {"l4l", "L-0"}, {"l44", "L-0"}, {"l4x", "L-."}, {"l4_", "L-."},
		{"l4´", "L-."}, {"l4´b", "L-.0"}, {"l4´bb", "L-.21"}, {"l4´l4", "L-.L-"}, {"l4_b", "L-.1"},
		{"bl4b", "2J-0"}, {"bl4´´b", "2J-..0"}, {"bl1lb", "2J-21"}, {"l2dd", "L-00"},
	})
}

func TestShapesThatAreThereStay(t *testing.T) {
	for _, text := range [][]int64{{65167}, {65169, 65168}, {65152, 65268}, {65269, 65276}, {65275, 97}, {65533}, {0, 55295, 57344, impl.MaxChar}} {
		if got := impl.ShapeOf(text); got.Code != impl.OK || !slices.Equal(got.Text, text) {
			t.Error(text, got)
		}
	}
	// and nothing is joined to them
	if got := impl.ShapeOf([]int64{1576, 65170, 1576, 65276, 1604, 65166}); !slices.Equal(got.Text, []int64{65167, 65170, 65167, 65276, 65245, 65166}) {
		t.Error(got)
	}
}

// Each letter alone, two and three times in a row, and beside one that joins to both sides.
func TestShapeOfEachLetter(t *testing.T) {
	for c, forms := range formsByList {
		for _, text := range [][]int64{{c}, {c, c}, {c, c, c}, {1576, c}, {c, 1576}, {1576, c, 1576}, {1576, 1611, c, 769, 1576}, {1604, c}, {c, 1604}, {1576, 1604, c, 1576}, {1600, c, 1600}} {
			checkShape(t, text)
		}
		alone, between := impl.ShapeOf([]int64{c}), impl.ShapeOf([]int64{1600, c, 1600})
		if !slices.Equal(alone.Text, forms[:1]) || !slices.Equal(between.Text, []int64{1600, forms[len(forms)-1], 1600}) {
			t.Error(c, alone, between)
		}
	}
}

func TestOnlyMarksArePassedOver(t *testing.T) {
	atTheEnds(func(c int64) {
		for _, text := range [][]int64{{1576, c, 1576}, {c, 1576}, {1576, c}, {c}, {c, c}, {1604, c, 1575}, {1576, c, 1604, 1575, c, 1576}, {1600, c, 1583}} {
			checkShape(t, text)
		}
		want := []int64{65167, c, 65167}
		if classByList(c) == impl.ClassNSM {
			want = []int64{65169, c, 65168}
		}
		if got := impl.ShapeOf([]int64{1576, c, 1576}); len(formsByList[c]) == 0 && !slices.Equal(got.Text, want) {
			t.Error(c, got)
		}
	})
}

func TestShapeAsksTextFault(t *testing.T) {
	for _, code := range []int64{impl.ErrMany, impl.ErrRange} {
		for _, text := range faultyTexts(code) {
			if got := impl.ShapeOf(text); got.Code != code || len(got.Text) != 0 {
				t.Error(len(text), code, got)
			}
		}
	}
	for _, text := range [][]int64{{1576, 1576, -1}, {1604, 1575, 1114112}, {-1, 1604, 1575}, {1604, -1, 1575}, {1576, impl.Gone}} {
		if got := impl.ShapeOf(text); got.Code != impl.ErrRange || len(got.Text) != 0 {
			t.Error(text, got)
		}
	}
}

// joinKinds has a character of each kind that chapter 9 tells apart.
func joinKinds() []int64 {
	return joined("hd41bl_´x")
}

func TestShapeOfAllKinds(t *testing.T) {
	check := func(text []int64) { checkShape(t, text) }
	allStrings(joinKinds(), 4, check)
	allStrings(joined("4bl´"), 6, check)
	r := rand.New(rand.NewSource(17))
	all := append(joined("hdrwt1234bysl_´`xA8 ·/→▷△lll´´´"), 65167, 65170, 65268, 65269, 65276, 65533, impl.MaxChar)
	for c := range int64(60) {
		all = append(all, 1565+c)
	}
	for range 1000 {
		check(randomText(r, all, r.Intn(40)))
		check(randomText(r, joined("hd1234bylll_´´"), r.Intn(60)))
	}
	for range 20 {
		check(randomText(r, all, impl.MaxText))
		check(randomText(r, joined("hd1234bylll_´´´"), impl.MaxText))
	}
}

func TestShapeOfAFullText(t *testing.T) {
	for _, c := range joinKinds() {
		checkShape(t, many(c, impl.MaxText))
	}
	marks := many(769, impl.MaxText-2)
	checkShape(t, slices.Concat(joined("b"), marks, joined("b")))
	checkShape(t, slices.Concat(joined("b"), marks, joined("d")))
	checkShape(t, slices.Concat(marks, joined("l4")))
	checkShape(t, slices.Concat(joined("l4"), marks))
	checkShape(t, slices.Repeat(joined("l4"), impl.MaxText/2))
	checkShape(t, slices.Repeat(joined("b´"), impl.MaxText/2))
}

func checkShape(t *testing.T, text []int64) {
	t.Helper()
	got := impl.ShapeOf(text)
	if want := shapeByJoints(text); got.Code != impl.OK || !slices.Equal(got.Text, want) {
		t.Fatal(text, got, want)
	}
	checkShapeSaysTheText(t, text, got.Text)
}

// Promise 10: shaped text says what the text says, and a form is known by its letter.
func checkShapeSaysTheText(t *testing.T, text, shaped []int64) {
	t.Helper()
	if !slices.Equal(saidBy(shaped), saidBy(text)) {
		t.Fatal("promise 10", text, shaped)
	}
	for i, c := range shaped {
		bare := impl.BareOf(c)
		switch {
		case c == text[i] || c == impl.Gone:
		case bare.Code == impl.OK && bare.Value != text[i]:
			t.Fatal("promise 10: another letter", text, shaped, bare)
		case bare.Code != impl.OK && (text[i] != 1604 || shaped[i+1] != impl.Gone):
			t.Fatal("promise 10: no letter", text, shaped, c)
		}
	}
}

// Promise 10: a form is known by its letter.
func TestBareOfEachForm(t *testing.T) {
	for c, forms := range formsByList {
		for _, form := range forms {
			if got := impl.BareOf(form); got != (impl.IntResult{Value: c}) {
				t.Error("form", c, form, got)
			}
		}
		for _, sides := range [][2]bool{{false, false}, {true, false}, {false, true}, {true, true}} {
			form := impl.FormOf(c, sides[0], sides[1])
			if got := impl.BareOf(form.Value); form.Code != impl.OK || got != (impl.IntResult{Value: c}) {
				t.Error("letter", c, sides, form, got)
			}
		}
		if got := impl.BareOf(c); got != (impl.IntResult{Code: impl.ErrNone}) {
			t.Error("no form itself", c, got)
		}
	}
}

func TestBareOfTells(t *testing.T) {
	for _, c := range []struct{ c, code, want int64 }{
		{65152, impl.OK, 1569},
		{65153, impl.OK, 1570},
		{65154, impl.OK, 1570},
		{65155, impl.OK, 1571},
		{65232, impl.OK, 1594}, // at the gap between the letters
		{65233, impl.OK, 1601},
		{65264, impl.OK, 1609},
		{65265, impl.OK, 1610},
		{65268, impl.OK, 1610},
		{65151, impl.ErrNone, 0},
		{65269, impl.ErrNone, 0}, // ligatures are forms of two letters
		{65272, impl.ErrNone, 0},
		{65276, impl.ErrNone, 0},
		{65277, impl.ErrNone, 0},
		{1568, impl.ErrNone, 0},
		{1569, impl.ErrNone, 0},
		{1576, impl.ErrNone, 0},
		{1595, impl.ErrNone, 0},
		{impl.Stretch, impl.ErrNone, 0},
		{1611, impl.ErrNone, 0},
		{0, impl.ErrNone, 0},
		{97, impl.ErrNone, 0},
		{55295, impl.ErrNone, 0},
		{57344, impl.ErrNone, 0},
		{impl.MaxChar, impl.ErrNone, 0},
		{impl.Gone, impl.ErrRange, 0}, // what is no character is no form either, but that is asked behind
		{55296, impl.ErrRange, 0},
		{57343, impl.ErrRange, 0},
		{impl.MaxChar + 1, impl.ErrRange, 0},
		{1<<32 + 65152, impl.ErrRange, 0},
		{-65152, impl.ErrRange, 0},
	} {
		if got := impl.BareOf(c.c); got.Code != c.code || got.Value != c.want {
			t.Error(c.c, got)
		}
	}
}

func TestBareOfEveryCharacter(t *testing.T) {
	letters := letterOfForms()
	someChars(func(c int64) {
		want := impl.IntResult{Value: letters[c]}
		if letters[c] == 0 {
			want.Code = impl.ErrNone
		}
		if got := impl.BareOf(c); got != want {
			t.Fatal(c, got, want)
		}
	})
	for _, c := range noChars() {
		if got := impl.BareOf(c); got != (impl.IntResult{Code: impl.ErrRange}) {
			t.Error(c, got)
		}
	}
}

// Promise 1 as far as chapter 9 goes: no argument is changed, what is answered is new memory, and it hangs on the arguments alone.
func TestShapeSharesNothing(t *testing.T) {
	for _, list := range [][]int64{
		nil, {}, {97}, {1576}, joined("bbb"), joined("l4"), joined("x"), joined("´´"), joined("_b´l4bd h"), {1576, -1}, {-1},
		slices.Repeat(joined("bl4´d_"), impl.MaxText/6), make([]int64, impl.MaxText+1),
	} {
		text := roomy(list...)
		before := slices.Clone(text[:cap(text)])
		first, second := impl.ShapeOf(text), impl.ShapeOf(text)
		if !reflect.DeepEqual(first, second) {
			t.Error("two answers", list)
		}
		scribble(first.Text, 7)
		if !slices.Equal(text[:cap(text)], before) {
			t.Error("changed", text)
		}
		third := impl.ShapeOf(text)
		scribble(text, 7)
		again := impl.ShapeOf(list)
		for _, other := range []impl.ShapeResult{third, again} {
			if other.Code != second.Code || !slices.Equal(other.Text, second.Text) {
				t.Error("shared", list, second, other)
			}
		}
	}
}

// Promise 1: the same again, whatever was asked between.
func TestJoinsAndBareAnswerTheSameAgain(t *testing.T) {
	type all struct {
		after, before bool
		bare          impl.IntResult
	}
	ask := func(c int64) all { return all{impl.JoinsAfter(c), impl.JoinsBefore(c), impl.BareOf(c)} }
	spans := [][2]int64{{-10, 10}, {1560, 1630}, {65140, 65290}}
	first := map[int64]all{}
	for _, s := range spans {
		for c := s[0]; c <= s[1]; c++ {
			first[c] = ask(c)
		}
	}
	for _, s := range spans {
		for c := s[1]; c >= s[0]; c-- {
			if again := ask(c); again != first[c] {
				t.Fatal(c, first[c], again)
			}
		}
	}
}
