package tests

import (
	"math"
	"math/rand"
	"reflect"
	"slices"
	"testing"

	"loop.example/g00739/impl"
)

// A levelsCase is written in signs, and its levels in one digit each.
type levelsCase struct {
	text string
	base int64
	want string
}

func checkLevelsCases(t *testing.T, cases []levelsCase) {
	t.Helper()
	for _, c := range cases {
		got := impl.LevelsOf(written(c.text), c.base)
		if got.Code != impl.OK || digitsOf(got.List) != c.want {
			t.Errorf("%q, base %d: code %d, %v and not %s", c.text, c.base, got.Code, got.List, c.want)
		}
	}
}

func TestLevelsOfTheDocument(t *testing.T) {
	if got := impl.LevelsOf([]int64{97, 32, 1488, 1489}, 0); got.Code != impl.OK || !slices.Equal(got.List, []int64{0, 0, 1, 1}) {
		t.Error(got)
	}
	if got := impl.LevelsOf([]int64{1488, 49, 50}, 1); got.Code != impl.OK || !slices.Equal(got.List, []int64{1, 2, 2}) {
		t.Error(got)
	}
}

func TestLevelsOfLetters(t *testing.T) {
	checkLevelsCases(t, []levelsCase{
		{"", 0, ""},
		{"", 1, ""},
		{"a", 0, "0"},
		{"a", 1, "2"},
		{"A", 0, "1"},
		{"A", 1, "1"},
		{"æ", 0, "1"},
		{"æ", 1, "1"},
		{"abAB", 0, "0011"},
		{"abAB", 1, "2211"},
		{"AæaB", 0, "1101"},
		{"AæaB", 1, "1121"},
		// with marks
		{"a´A´", 0, "0011"},
		{"a´A´", 1, "2211"},
		{"´a", 0, "00"},
		{"´a", 1, "12"},
		{"æ´´", 0, "111"},
	})
}

func TestLevelsOfNumbers(t *testing.T) {
	checkLevelsCases(t, []levelsCase{
		// behind what goes to the right they are as that
		{"12", 0, "00"},
		{"a12", 0, "000"},
		{"a12", 1, "222"},
		{"a ①", 0, "002"},
		{"a ①", 1, "212"},
		{"A a12", 1, "11222"},
		// else they are two above an even level, and one above an odd one
		{"12", 1, "22"},
		{"①", 0, "2"},
		{"①", 1, "2"},
		{"A12", 0, "122"},
		{"A12", 1, "122"},
		{"æ12", 0, "122"},
		{"æ12", 1, "122"},
		{"A①a1", 0, "1200"},
		{"A①a1", 1, "1222"},
		{"A 12 B", 0, "112211"},
		{"A 12 b", 0, "112200"},
		{"A 12 b", 1, "112212"},
		{"1 A", 0, "001"},
		{"1 A", 1, "211"},
		// with what they take with them
		{"A1,2+3%", 0, "1222222"},
		{"A1,2+3%", 1, "1222222"},
		{"A%1", 0, "122"},
		{"A1+ 2", 0, "12112"},
		{"æ1,2", 0, "1222"},
		{"æ1+2", 0, "1212"},
		{"①,②", 0, "222"},
		{"①+②", 0, "212"},
		{"①+②", 1, "212"},
		{"A1´2", 1, "1222"},
		{"a+b", 1, "222"},
	})
}

func TestLevelsOfBlanksAndSeparators(t *testing.T) {
	checkLevelsCases(t, []levelsCase{
		{" ", 0, "0"},
		{" ", 1, "1"},
		{" \t!", 0, "000"},
		{" \t!", 1, "111"},
		{"a b", 0, "000"},
		{"a b", 1, "222"},
		{"A B", 0, "111"},
		{"A B", 1, "111"},
		{"a A", 0, "001"},
		{"a A", 1, "211"},
		{"A a", 0, "100"},
		{"A a", 1, "112"},
		{"a\tb", 1, "222"},
		{"A\tB", 0, "111"},
		{"A\t\ta", 0, "1000"},
		{"A\t\ta", 1, "1112"},
		// at the ends, where the base is what is beside them
		{" A", 0, "01"},
		{" A", 1, "11"},
		{"A ", 0, "10"},
		{"A ", 1, "11"},
		{" a", 0, "00"},
		{" a", 1, "12"},
		{"a ", 0, "00"},
		{"a ", 1, "21"},
		{"A1 ", 0, "120"},
		{"A1 ", 1, "121"},
		{"a\t", 1, "21"},
		{"A\t", 0, "10"},
	})
}

func TestLevelsOfBrackets(t *testing.T) {
	checkLevelsCases(t, []levelsCase{
		{"a(A)", 0, "0010"},
		{"(A)", 0, "010"},
		{"(A)", 1, "111"},
		{"(a)", 0, "000"},
		{"(a)", 1, "121"},
		{"()", 0, "00"},
		{"()", 1, "11"},
		{"A(b)C", 0, "10001"},
		{"A(b)C", 1, "11211"},
		{"a(B)c", 0, "00100"},
		{"a(B)c", 1, "21112"},
		{"a(b)C", 1, "22221"},
		{"A(B)c", 0, "11110"},
		{"A(B)c", 1, "11112"},
		{"A(1)", 0, "1121"},
		{"(1)", 1, "121"},
		{"(1)", 0, "000"},
		{"a[b(C)]", 0, "0000100"},
		{"A[B(c)]", 1, "1111211"},
		{"A(b)´", 0, "10000"},
		{"A(b)´C", 1, "112111"},
		{"A (b) [C]", 0, "100000010"},
		// that are no pairs
		{"A(b", 0, "100"},
		{"A(B", 0, "111"},
		{"a)B", 0, "001"},
		{"A(b]C", 0, "10001"},
		{"A(b]C", 1, "11211"},
		{"A<b>C", 0, "10001"},
		{"A<b>C", 1, "11211"},
		{"A<B>c", 0, "11100"},
	})
}

func TestLevelsOfWhatIsRemoved(t *testing.T) {
	checkLevelsCases(t, []levelsCase{
		{"·", 0, "-"},
		{"·", 1, "-"},
		{"→←⇒⇐↑·", 0, "------"},
		{"↑a↑", 1, "-2-"},
		{"a·B", 0, "0-1"},
		{"·a·B·", 1, "-2-1-"},
		{"A·1·2", 0, "1-2-2"},
		{"A1·,·2", 0, "12-2-2"}, // as if it was not there
		{"A·´", 0, "1-1"},
		{"A(·b·)·´", 0, "10-0-0-0"},
		{"A· ·B", 0, "1-1-1"},
		{"a←↑b", 1, "2--2"},
		{"\x00a\x1f\x7f", 0, "-0--"},
	})
}

func TestLevelsOfEmbeddings(t *testing.T) {
	checkLevelsCases(t, []levelsCase{
		{"→a↑", 0, "-2-"},
		{"→A↑", 0, "-3-"},
		{"→1↑", 0, "-2-"},
		{"→①↑", 0, "-4-"},
		{"→A1↑", 0, "-34-"},
		{"→ ↑", 0, "-2-"},
		{"→a↑", 1, "-2-"},
		{"→A1↑", 1, "-34-"},
		{"←a↑", 0, "-2-"},
		{"←A↑", 0, "-1-"},
		{"←1↑", 0, "-2-"},
		{"←①↑", 0, "-2-"},
		{"← ↑", 0, "-1-"},
		{"←a↑", 1, "-4-"},
		{"←A1↑", 1, "-34-"},
		{"a←b↑c", 0, "0-2-0"},
		{"a←B↑c", 0, "0-1-0"},
		{"A→b↑C", 1, "1-2-1"},
		{"a←b→C↑D↑e", 0, "0-2-3-1-0"},
		// what they are deeper than tells at the ends
		{"a ←B↑", 0, "00-1-"},
		{"A ←b↑", 0, "11-2-"},
		{"A →b↑ C", 1, "11-2-11"},
		{"a →b↑ c", 1, "22-2-22"},
		{"←a ↑ b", 0, "-21-00"},
		{"←a↑1", 0, "-2-2"},
		{"→a↑1", 1, "-2-2"},
		// brackets on two levels are no pair
		{"A(←b)↑C", 0, "11-21-1"},
		{"A(→b↑)C", 0, "10-2-01"},
		{"a(←b↑)c", 1, "21-4-12"},
	})
}

func TestLevelsOfOverrides(t *testing.T) {
	checkLevelsCases(t, []levelsCase{
		{"⇐ab↑", 0, "-11-"},
		{"⇐ab↑", 1, "-33-"},
		{"⇒AB↑", 0, "-22-"},
		{"⇒AB↑", 1, "-22-"},
		{"⇐a 1①,´(B)\t↑", 0, "-1111111111-"},
		{"⇒A 1①,´(b)\t↑", 0, "-2222222222-"},
		{"⇐a·b↑", 0, "-1-1-"},
		{"⇐a↑b", 0, "-1-0"},
		{"⇐a→b↑c↑", 0, "-1-2-1-"},
		{"⇐◁a△b↑", 0, "-1411-"},
		{"⇒▷A△B↑", 0, "-2522-"},
		{"⇒a◁b", 0, "-224"},
		{"a⇐(b↑)", 0, "0-11-0"},
	})
}

func TestLevelsOfIsolates(t *testing.T) {
	checkLevelsCases(t, []levelsCase{
		{"a◁B△c", 0, "00100"},
		{"a◁b△c", 0, "00200"},
		{"A◁b△C", 0, "11211"},
		{"A▷b△C", 0, "11211"},
		{"A▷B△C", 0, "11311"},
		{"A▷b△C", 1, "11211"},
		{"A◁B△C", 1, "11311"},
		{"a▷b△c", 1, "22222"},
		{"◇A△", 0, "010"},
		{"◇a△", 0, "020"},
		{"◇1A△", 0, "0210"},
		{"A◇ △", 0, "1020"},
		{"A◇ △", 1, "1121"},
		// over which numbers and brackets go on
		{"A◁b△1", 0, "11212"},
		{"a◁B△1", 0, "00100"},
		{"a◁B△1", 1, "22322"},
		{"A▷b△(▷c△)", 0, "102000200"},
		{"A▷b△(▷c△)", 1, "112111211"},
		{"A(▷b△)C", 0, "1112111"},
		{"A(▷b△c)D", 0, "10020001"},
		{"A(◁b)△c)", 0, "10021000"},
		{"A1▷2△,3", 0, "1212112"},
		// empty
		{"A◁△B", 0, "1111"},
		{"a◁△b", 0, "0000"},
		{"A▷·△b", 1, "11-12"},
		{"◁△", 1, "11"},
		// without a match
		{"a◁B", 0, "001"},
		{"A◁B", 0, "101"},
		{"A◁B", 1, "113"},
		{"A▷b", 1, "112"},
		{"a△B", 0, "001"},
		{"A△B", 0, "111"},
		{"A△b", 1, "112"},
		{"←A◁b", 0, "-114"},
		// one in the other
		{"a◁B▷c△D△e", 0, "001121100"},
		{"◁▷△△", 0, "0110"},
		{"◁▷a△", 0, "0121"},
		{"A◁b▷C△1△2", 0, "112232212"},
	})
}

// At the greatest level that can be told, what goes to the right is one above, and at the one below it numbers are two above.
func TestLevelsAtTheBound(t *testing.T) {
	for _, c := range []struct {
		ahead []int64
		text  string
		base  int64
		want  []int64
	}{
		{many(lre, 62), "a", 0, []int64{124}},
		{many(lre, 62), "A", 0, []int64{125}},
		{many(lre, 62), "1", 0, []int64{124}},
		{many(lre, 62), "①", 0, []int64{126}},
		{many(lre, 62), "aA1 ①a", 0, []int64{124, 125, 126, 125, 126, 124}},
		{many(lre, 62), "A1", 1, []int64{125, 126}},
		{many(lre, 61), "A1", 0, []int64{123, 124}},
		{many(rle, 63), "A", 0, []int64{125}},
		{many(rle, 63), "a", 0, []int64{126}},
		{many(rle, 63), "1", 0, []int64{126}},
		{many(rle, 63), "①", 0, []int64{126}},
		{many(rle, 63), "aA1 ①a", 0, []int64{126, 125, 126, 125, 126, 126}},
		{many(rle, 62), "aA1 ①a", 1, []int64{126, 125, 126, 125, 126, 126}},
		{many(rle, 62), "aA1", 0, []int64{124, 123, 124}},
		{many(lro, 62), "A①", 0, []int64{124, 124}},
		{many(rlo, 63), "a①", 0, []int64{125, 125}},
		// what is lost tells no more
		{many(lre, 63), "A1", 0, []int64{125, 126}},
		{many(rle, 64), "a1", 0, []int64{126, 126}},
		{many(lre, 200), "A1", 1, []int64{125, 126}},
		{many(rle, 200), "A1a", 0, []int64{125, 126, 126}},
		{many(lre, 62), "▷A△", 0, []int64{124, 125, 124}},
		{many(lre, 62), "◁a△A", 0, []int64{124, 126, 124, 125}},
		{many(rle, 63), "◁a△", 0, []int64{125, 126, 125}},
		{many(rle, 63), "▷A△1", 0, []int64{125, 125, 125, 126}},
	} {
		want := append(many(impl.NoLevel, len(c.ahead)), c.want...)
		if got := impl.LevelsOf(slices.Concat(c.ahead, written(c.text)), c.base); got.Code != impl.OK || !slices.Equal(got.List, want) {
			t.Errorf("%d ahead of %q, base %d: code %d, %v and not %v", len(c.ahead), c.text, c.base, got.Code, got.List, want)
		}
	}
}

// The text of a wantPart is written in signs, its classes in classLetters.
type wantPart struct {
	text, firsts, now string
	level             int64
	sides             string
}

func (w wantPart) part() impl.Part {
	sides := kindsOf(w.sides)
	return impl.Part{Text: written(w.text), Firsts: kindsOf(w.firsts), Now: kindsOf(w.now), Level: w.level, Sos: sides[0], Eos: sides[1]}
}

func samePart(a, b impl.Part) bool {
	return slices.Equal(a.Text, b.Text) && slices.Equal(a.Firsts, b.Firsts) && slices.Equal(a.Now, b.Now) &&
		a.Level == b.Level && a.Sos == b.Sos && a.Eos == b.Eos
}

type partsCase struct {
	text string
	base int64
	want []wantPart
}

func checkPartsCases(t *testing.T, cases []partsCase) {
	t.Helper()
	for _, c := range cases {
		got := impl.PartsOf(written(c.text), c.base)
		var want []impl.Part
		for _, w := range c.want {
			want = append(want, w.part())
		}
		if got.Code != impl.OK || !slices.EqualFunc(got.Parts, want, samePart) {
			t.Errorf("%q, base %d: code %d, %v and not %v", c.text, c.base, got.Code, got.Parts, want)
		}
	}
}

func TestPartsOfOneLevel(t *testing.T) {
	checkPartsCases(t, []partsCase{
		{"", 0, nil},
		{"", 1, nil},
		{"·", 0, nil},
		{"→·↑", 1, nil},
		{"a", 0, []wantPart{{"a", "L", "L", 0, "LL"}}},
		{"a", 1, []wantPart{{"a", "L", "L", 1, "RR"}}},
		{"a1 A", 0, []wantPart{{"a1 A", "LE_R", "LL_R", 0, "LL"}}},
		{"1,2%", 0, []wantPart{{"1,2%", "E,E%", "LLLL", 0, "LL"}}}, // the side ahead tells
		{"1,2%", 1, []wantPart{{"1,2%", "E,E%", "EEEE", 1, "RR"}}},
		{"´æ1´(+", 1, []wantPart{{"´æ1´(+", "^AE^o+", "RRNNoo", 1, "RR"}}},
		{"´æ1´(+", 0, []wantPart{{"´æ1´(+", "^AE^o+", "LRNNoo", 0, "LL"}}},
		// as if what is removed was not there
		{"·A1·,·2·", 0, []wantPart{{"A1,2", "RE,E", "REEE", 0, "LL"}}},
		{"a\t·´(→↑)", 0, []wantPart{{"a\t´()", "LS^oo", "LSSoo", 0, "LL"}}},
	})
}

func TestPartsOfEmbeddings(t *testing.T) {
	checkPartsCases(t, []partsCase{
		{"a←1↑2", 0, []wantPart{{"a", "L", "L", 0, "LR"}, {"1", "E", "E", 1, "RR"}, {"2", "E", "E", 0, "RL"}}},
		{"a←1↑2", 1, []wantPart{{"a", "L", "L", 1, "RR"}, {"1", "E", "E", 3, "RR"}, {"2", "E", "E", 1, "RR"}}},
		{"A→1↑2", 0, []wantPart{{"A", "R", "R", 0, "LL"}, {"1", "E", "L", 2, "LL"}, {"2", "E", "L", 0, "LL"}}},
		{"A→1↑2", 1, []wantPart{{"A", "R", "R", 1, "RL"}, {"1", "E", "L", 2, "LL"}, {"2", "E", "L", 1, "LR"}}},
		{"←´→´a", 0, []wantPart{{"´", "^", "R", 1, "RL"}, {"´a", "^L", "LL", 2, "LL"}}},
		{"←a↑←b↑", 0, []wantPart{{"ab", "LL", "LL", 1, "RR"}}},
		{"←a↑·→b↑", 0, []wantPart{{"a", "L", "L", 1, "RL"}, {"b", "L", "L", 2, "LL"}}},
		// what closes nothing, and what is closed by the end
		{"a↑↑b", 0, []wantPart{{"ab", "LL", "LL", 0, "LL"}}},
		{"a←b←c", 0, []wantPart{{"a", "L", "L", 0, "LR"}, {"b", "L", "L", 1, "RR"}, {"c", "L", "L", 3, "RR"}}},
		{"a←b←c↑d↑e", 0, []wantPart{{"a", "L", "L", 0, "LR"}, {"b", "L", "L", 1, "RR"}, {"c", "L", "L", 3, "RR"}, {"d", "L", "L", 1, "RR"}, {"e", "L", "L", 0, "RL"}}},
	})
}

func TestPartsOfOverrides(t *testing.T) {
	checkPartsCases(t, []partsCase{
		{"⇐a1´(↑1", 0, []wantPart{{"a1´(", "RRRR", "RRRR", 1, "RR"}, {"1", "E", "E", 0, "RL"}}},
		{"⇒A①´(↑①", 0, []wantPart{{"A①´(", "LLLL", "LLLL", 2, "LL"}, {"①", "N", "N", 0, "LL"}}},
		{"⇐a→b´↑c↑´", 1, []wantPart{{"a", "R", "R", 3, "RL"}, {"b´", "L^", "LL", 4, "LL"}, {"c", "R", "R", 3, "LR"}, {"´", "^", "R", 1, "RR"}}},
		{"⇐◁1△´↑", 0, []wantPart{{"◁△´", "RRR", "RRR", 1, "RR"}, {"1", "E", "E", 3, "RR"}}},
		{"⇒a▷´△", 1, []wantPart{{"a▷△", "LLL", "LLL", 2, "LL"}, {"´", "^", "L", 4, "LL"}}},
	})
}

func TestPartsOfIsolates(t *testing.T) {
	checkPartsCases(t, []partsCase{
		{"a◁B△1", 0, []wantPart{{"a◁△1", "L>!E", "L>!L", 0, "LL"}, {"B", "R", "R", 1, "RR"}}},
		{"a◁B△1", 1, []wantPart{{"a◁△1", "L>!E", "L>!L", 1, "RR"}, {"B", "R", "R", 3, "RR"}}},
		{"æ▷1△1´", 0, []wantPart{{"æ▷△1´", "A<!E^", "R<!NN", 0, "LL"}, {"1", "E", "L", 2, "LL"}}},
		{"æ▷1△´1", 1, []wantPart{{"æ▷△´1", "A<!^E", "R<!oN", 1, "RR"}, {"1", "E", "L", 2, "LL"}}},
		{"◇·1A△", 0, []wantPart{{"◇△", "?!", "?!", 0, "LL"}, {"1A", "ER", "ER", 1, "RR"}}},
		// empty
		{"1▷△,2", 1, []wantPart{{"1▷△,2", "E<!,E", "E<!oE", 1, "RR"}}},
		{"◁△", 0, []wantPart{{"◁△", ">!", ">!", 0, "LL"}}},
		{"◁·△´", 0, []wantPart{{"◁△´", ">!^", ">!o", 0, "LL"}}},
		// without a match
		{"a◁B", 0, []wantPart{{"a◁", "L>", "L>", 0, "LL"}, {"B", "R", "R", 1, "RR"}}},
		{"A▷1", 1, []wantPart{{"A▷", "R<", "R<", 1, "RR"}, {"1", "E", "L", 2, "LL"}}},
		{"a△1", 1, []wantPart{{"a△1", "L!E", "L!L", 1, "RR"}}},
		{"◁", 0, []wantPart{{"◁", ">", ">", 0, "LL"}}},
		// one in the other, and one behind the other
		{"a◁B▷c△1△2", 0, []wantPart{{"a◁△2", "L>!E", "L>!L", 0, "LL"}, {"B▷△1", "R<!E", "R<!E", 1, "RR"}, {"c", "L", "L", 2, "LL"}}},
		{"◁▷△△", 1, []wantPart{{"◁△", ">!", ">!", 1, "RR"}, {"▷△", "<!", "<!", 3, "RR"}}},
		{"◁a▷b△", 0, []wantPart{{"◁", ">", ">", 0, "LL"}, {"a▷△", "L<!", "L<!", 1, "RR"}, {"b", "L", "L", 2, "LL"}}},
		{"A◁b△1▷2△3", 0, []wantPart{{"A◁△1▷△3", "R>!E<!E", "R>!E<!E", 0, "LL"}, {"b", "L", "L", 1, "RR"}, {"2", "E", "L", 2, "LL"}}},
		// with embeddings in them
		{"◁a→1↑´△1", 0, []wantPart{{"◁△1", ">!E", ">!L", 0, "LL"}, {"a", "L", "L", 1, "RL"}, {"1", "E", "L", 2, "LL"}, {"´", "^", "L", 1, "LR"}}},
		{"←1◁2△3↑4", 0, []wantPart{{"1◁△3", "E>!E", "E>!E", 1, "RR"}, {"2", "E", "E", 3, "RR"}, {"4", "E", "E", 0, "RL"}}},
		{"◁←a△1", 0, []wantPart{{"◁△1", ">!E", ">!L", 0, "LL"}, {"a", "L", "L", 3, "RR"}}},
	})
}

// ImplicitOf has its codes at the bounds, and in their order, whatever the other argument is.
func TestImplicitOf(t *testing.T) {
	classes := []int64{-1, 23, 24, 99, 256, 1 << 32, 1<<32 + 1, -1 << 32, math.MaxInt64, math.MinInt64}
	classes = append(classes, classKinds()...)
	for level := int64(-3); level <= 130; level++ {
		for _, class := range classes {
			checkImplicit(t, level, class)
		}
	}
	for _, level := range []int64{255, 256, 1 << 32, 1<<32 + 1, -1 << 32, -1<<32 + 1, math.MaxInt64, math.MaxInt64 - 1, math.MinInt64, math.MinInt64 + 1} {
		for _, class := range classes {
			checkImplicit(t, level, class)
		}
	}
}

func checkImplicit(t *testing.T, level, class int64) {
	t.Helper()
	letters := map[int64]rune{impl.ClassL: 'L', impl.ClassR: 'R', impl.ClassEN: 'E', impl.ClassAN: 'N'}
	letter, found := letters[class]
	var want impl.IntResult
	switch {
	case level < 0 || level > 126:
		want.Code = impl.ErrRange
	case !found:
		want.Code = impl.ErrForm
	default:
		want.Value = levelFor(letter, level)
	}
	if got := impl.ImplicitOf(level, class); got != want {
		t.Error(level, class, got, want)
	}
}

func TestImplicitTells(t *testing.T) {
	for _, c := range []struct{ level, class, code, want int64 }{
		{0, impl.ClassL, impl.OK, 0},
		{0, impl.ClassR, impl.OK, 1},
		{0, impl.ClassEN, impl.OK, 2},
		{0, impl.ClassAN, impl.OK, 2},
		{1, impl.ClassL, impl.OK, 2},
		{1, impl.ClassR, impl.OK, 1},
		{1, impl.ClassEN, impl.OK, 2},
		{1, impl.ClassAN, impl.OK, 2},
		{124, impl.ClassL, impl.OK, 124},
		{124, impl.ClassR, impl.OK, 125},
		{124, impl.ClassEN, impl.OK, 126},
		{124, impl.ClassAN, impl.OK, 126},
		{125, impl.ClassL, impl.OK, 126},
		{125, impl.ClassR, impl.OK, 125},
		{125, impl.ClassEN, impl.OK, 126},
		{125, impl.ClassAN, impl.OK, 126},
		{126, impl.ClassL, impl.OK, 126},
		{126, impl.ClassR, impl.OK, 127},
		{126, impl.ClassEN, impl.OK, 128},
		{126, impl.ClassAN, impl.OK, 128},
		{-1, impl.ClassL, impl.ErrRange, 0},
		{127, impl.ClassR, impl.ErrRange, 0},
		{0, impl.ClassAL, impl.ErrForm, 0},
		{1, impl.ClassON, impl.ErrForm, 0},
		{126, impl.ClassPDI, impl.ErrForm, 0},
		{126, -1, impl.ErrForm, 0},
		{0, 23, impl.ErrForm, 0},
		{-1, impl.ClassON, impl.ErrRange, 0}, // the level is asked ahead of the class
		{127, -1, impl.ErrRange, 0},
	} {
		if got := impl.ImplicitOf(c.level, c.class); got.Code != c.code || got.Value != c.want {
			t.Error(c.level, c.class, got)
		}
	}
}

func TestLevelsAskParaFault(t *testing.T) {
	askParaFault(t, checkLevelsFault)
}

// checkLevelsFault asks that there is nothing beside a code.
func checkLevelsFault(t *testing.T, text []int64, base, want int64) {
	t.Helper()
	if got := impl.PartsOf(text, base); got.Code != want || want != impl.OK && len(got.Parts) != 0 {
		t.Error("parts", len(text), base, got.Code, want)
	}
	got := impl.LevelsOf(text, base)
	if got.Code != want || want != impl.OK && len(got.List) != 0 || want == impl.OK && len(got.List) != len(text) {
		t.Error("levels", len(text), base, got.Code, len(got.List), want)
	}
}

// levelKinds has a character of each class that may stand in a paragraph, and what else tells.
func levelKinds() []int64 {
	return append(written("aAæ1+%①,´·\t !()[]"), lre, rle, lro, rlo, pdf, lri, rli, fsi, pdi)
}

func TestLevelsOfAllKinds(t *testing.T) {
	both := func(text []int64) {
		checkLevels(t, text, 0)
		checkLevels(t, text, 1)
	}
	allStrings(levelKinds(), 2, both)
	allStrings(written("aA1①´ (·"), 3, both)
	allStrings(written("aA1← ↑"), 4, both)
	allStrings(written("aA1▷◁△"), 4, both)
	allStrings(written("aA1()"), 4, both)
	r := rand.New(rand.NewSource(13))
	for range 400 {
		both(randomText(r, levelKinds(), r.Intn(40)))
		both(randomText(r, written("aaAA11①´ ,()[]·←→↑▷◁△"), r.Intn(60)))
	}
	for range 100 {
		both(slices.Concat(randomText(r, written("→←⇒⇐◁▷"), 55+r.Intn(80)), randomText(r, levelKinds(), r.Intn(30))))
	}
	for range 3 {
		both(randomText(r, levelKinds(), impl.MaxText))
		both(randomText(r, written("aaAA11①´ ,()[]·←→↑▷◁△"), impl.MaxText))
	}
}

func TestLevelsOfEachClass(t *testing.T) {
	atTheEnds(func(c int64) {
		if classByList(c) != impl.ClassB {
			checkLevels(t, []int64{c}, 1)
			checkLevels(t, []int64{1488, c, 49, rle, 97, c}, 0)
			checkLevels(t, []int64{97, rli, 98, c, 97}, 0)
		}
	})
}

func checkLevels(t *testing.T, text []int64, base int64) {
	levels, parts := impl.LevelsOf(text, base), impl.PartsOf(text, base)
	if want := levelsByTests(text, base); levels.Code != impl.OK || !slices.Equal(levels.List, want) {
		t.Fatal("levels", text, base, levels, want)
	}
	var want []impl.Part
	partsByTests(text, base, func(_ impl.Sequence, p impl.Part) { want = append(want, p) })
	if parts.Code != impl.OK || !slices.EqualFunc(parts.Parts, want, samePart) {
		t.Fatal("parts", text, base, parts, want)
	}
	checkLevelsStand(t, text, base, levels.List)
	checkPartsAreOfSequences(t, text, base, levels.List, parts.Parts)
}

// Promise 9: each kept character has a level from that which is told on, two more at most.
func checkLevelsStand(t *testing.T, text []int64, base int64, levels []int64) {
	for place, told := range impl.ExplicitOf(text, base).Levels {
		kept := told != impl.NoLevel
		if !kept && levels[place] != impl.NoLevel || kept && (levels[place] < told || levels[place] > told+2) {
			t.Fatal("promise 9", text, base, place, told, levels[place])
		}
	}
}

// Promise 9: parts are those of sequences. It holds for what the other chapters' functions answer, too.
func checkPartsAreOfSequences(t *testing.T, text []int64, base int64, levels []int64, parts []impl.Part) {
	if !slices.EqualFunc(parts, partsByChapters(t, text, base), samePart) {
		t.Fatal("promise 9: parts", text, base, parts)
	}
	for i, s := range impl.SequencesOf(text, base).List {
		sides := impl.SidesOf(parts[i])
		if sides.Code != impl.OK || len(sides.Classes) != len(s.Places) {
			t.Fatal("sides", text, base, sides)
		}
		for j, class := range sides.Classes {
			if want := impl.ImplicitOf(s.Level, class); want.Code != impl.OK || levels[s.Places[j]] != want.Value {
				t.Fatal("level", text, base, s, j, class, want)
			}
		}
	}
}

func sharingLines() [][]int64 {
	return append(sharingTexts(), written("a(A1·)´ ◁b1▷(æ)1△△←1,2⇐c↑↑"), written("1´´+ ◁"), slices.Repeat(written("aA1(◁b)△·"), 60))
}

// Promise 1 as far as chapter 8 goes: no argument is changed, what is answered is new memory, and it hangs on the arguments alone.
func TestLevelsShareNothing(t *testing.T) {
	for _, list := range sharingLines() {
		text := roomy(list...)
		before := slices.Clone(text[:cap(text)])
		parts, levels := impl.PartsOf(text, 1), impl.LevelsOf(text, 1)
		partsAgain, levelsAgain := impl.PartsOf(text, 1), impl.LevelsOf(text, 1)
		if !reflect.DeepEqual(parts, partsAgain) || !reflect.DeepEqual(levels, levelsAgain) {
			t.Error("two answers", list)
		}
		for _, p := range partsAgain.Parts {
			for _, own := range [][]int64{p.Text, p.Firsts, p.Now} {
				scribble(own, 40)
			}
		}
		scribble(partsAgain.Parts, impl.Part{Level: 41})
		scribble(levelsAgain.List, 42)
		if !slices.Equal(text[:cap(text)], before) {
			t.Error("changed", text)
		}
		scribble(text, 7)
		if !reflect.DeepEqual(parts, impl.PartsOf(list, 1)) || !reflect.DeepEqual(levels, impl.LevelsOf(list, 1)) {
			t.Error("shared", list, parts, levels)
		}
	}
}

// listsOf tells all lists of an answer, each part's three behind one another.
func listsOf(parts []impl.Part) [][]int64 {
	var lists [][]int64
	for _, p := range parts {
		lists = append(lists, p.Text, p.Firsts, p.Now)
	}
	return lists
}

// No two lists within one answer share memory: to write over one, and behind it, leaves all others as they were.
func TestPartsShareNothingAmongThemselves(t *testing.T) {
	for _, text := range sharingLines() {
		lists := listsOf(impl.PartsOf(text, 0).Parts)
		for i := range lists {
			got := listsOf(impl.PartsOf(text, 0).Parts)
			scribble(got[i], 40)
			if !sameLists(slices.Delete(got, i, i+1), slices.Delete(slices.Clone(lists), i, i+1)) {
				t.Error(text, i, got)
			}
		}
	}
}
