package tests

import (
	"math"
	"math/rand"
	"reflect"
	"slices"
	"strings"
	"testing"

	"loop.example/g00739/impl"
)

type weakFunc struct {
	name   string
	ask    func(list []int64, side int64) impl.ClassesResult
	oracle func(s, side string) string
}

// weakFuncs are the functions of chapter 6 that ask ClassesFault.
func weakFuncs() []weakFunc {
	return []weakFunc{
		{"marks", impl.MarksOf, marksByLetters},
		{"numbers", impl.NumbersOf, numbersByLetters},
		{"signs", impl.SignsOf, signsByLetters},
		{"all", impl.WeakOf, weakByLetters},
	}
}

// A weakCase is written in the letters of classLetters; one without a side is asked with both.
type weakCase struct{ side, list, want string }

func checkWeakCases(t *testing.T, ask func(list []int64, side int64) impl.ClassesResult, cases []weakCase) {
	t.Helper()
	for _, c := range cases {
		sides := c.side
		if sides == "" {
			sides = "LR"
		}
		for _, side := range kindsOf(sides) {
			if got := ask(kindsOf(c.list), side); got.Code != impl.OK || lettersOf(got.Classes) != c.want {
				t.Errorf("side %d of %q: code %d, %q and not %q", side, c.list, got.Code, lettersOf(got.Classes), c.want)
			}
		}
	}
}

func TestClassLetters(t *testing.T) {
	if len(classKinds()) != len(classLetters) {
		t.Fatal(len(classKinds()), len(classLetters))
	}
	for i, class := range classKinds() {
		letter := classLetters[i : i+1]
		if class != int64(i) || !slices.Equal(kindsOf(letter), []int64{class}) || lettersOf([]int64{class}) != letter {
			t.Error(i, class, letter)
		}
	}
}

func TestMarksBecomeWhatIsAhead(t *testing.T) {
	checkWeakCases(t, impl.MarksOf, []weakCase{
		{"", "", ""},
		// at the front
		{"L", "^", "L"},
		{"R", "^", "R"},
		{"L", "^R", "LR"},
		{"R", "^L", "RL"},
		{"L", "^^^E^", "LLLEE"},
		{"R", "^^^E^", "RRREE"},
		// one behind the other, and away from each other
		{"", "A^", "AA"},
		{"", "A^^^", "AAAA"},
		{"", "E^N^R^", "EENNRR"},
		{"", "E^^%^^R", "EEE%%%R"},
		{"", "L,^^E", "L,,,E"},
		// what is behind does not tell
		{"", "o^R", "ooR"},
		{"", "_^A", "__A"},
		// all else stays
		{"", "LRAE+%N,0/S_o12345<>?!", "LRAE+%N,0/S_o12345<>?!"},
		{"", "AE,E%+!", "AE,E%+!"},
	})
}

func TestMarksBehindIsolates(t *testing.T) {
	checkWeakCases(t, impl.MarksOf, []weakCase{
		{"", "L<^", "L<o"},
		{"", "R>^", "R>o"},
		{"", "R?^", "R?o"},
		{"", "L<E!^", "L<E!o"},
		{"", "!^", "!o"},
		// behind what has become ON there
		{"", "<^^^", "<ooo"},
		{"", ">^^", ">oo"},
		{"", "?^^", "?oo"},
		{"", "!^^E^", "!ooEE"},
		{"", "<^!^^", "<o!oo"},
		{"", "E<!^E^", "E<!oEE"},
		{"R", "^<^", "R<o"},
		// what is told of embeddings is no isolate
		{"", "1^2^3^4^5^", "1122334455"},
		{"", "0^/^S^_^o^", "00//SS__oo"},
	})
}

func TestMarksBehindEachClass(t *testing.T) {
	for _, class := range classKinds() {
		want := class
		if strings.Contains("<>?!", lettersOf([]int64{class})) {
			want = impl.ClassON
		}
		for _, side := range []int64{toL, toR} {
			if class == impl.ClassNSM {
				want = side
			}
			got := impl.MarksOf([]int64{class, impl.ClassNSM, impl.ClassNSM}, side).Classes
			if len(got) != 3 || class != impl.ClassNSM && got[0] != class || got[1] != want || got[2] != want {
				t.Error(class, side, got)
			}
		}
	}
}

func TestNumbersBehindLetters(t *testing.T) {
	checkWeakCases(t, impl.NumbersOf, []weakCase{
		{"", "", ""},
		{"", "AE", "RN"},
		{"", "RE", "RE"},
		{"", "LE", "LE"},
		{"", "E", "E"},     // none is ahead, but a side
		{"", "_oE", "_oE"}, // what is ahead has no side
		{"", "EA", "ER"},   // behind it
		{"", "EAE", "ERN"},
		// the last one tells
		{"", "ALE", "RLE"},
		{"", "ARE", "RRE"},
		{"", "LAE", "LRN"},
		{"", "RAE", "RRN"},
		{"", "ALREAE", "RLRERN"},
		{"", "AELEREAE", "RNLERERN"},
		// however far ahead, behind whatever is no letter
		{"", "A+%N,^0/S_o12345<>?!E", "R+%N,^0/S_o12345<>?!N"},
		{"", "L+%N,^0/S_o12345<>?!E", "L+%N,^0/S_o12345<>?!E"},
		{"", "AEE,E^E", "RNN,N^N"},
		{"", "ANE", "RNN"},
		// an AL becomes R, but only behind that
		{"", "A", "R"},
		{"", "AAA", "RRR"},
		{"", "AAE", "RRN"},
		{"", "AEAE", "RNRN"},
		// all else stays
		{"", "LRE+%N,^0/S_o12345<>?!", "LRE+%N,^0/S_o12345<>?!"},
	})
}

func TestSeparatorsBetweenNumbers(t *testing.T) {
	checkWeakCases(t, impl.SignsOf, []weakCase{
		{"R", "E+E", "EEE"},
		{"R", "E,E", "EEE"},
		{"", "N,N", "NNN"},
		{"", "N+N", "NoN"},
		// between numbers of two kinds
		{"R", "E,N", "EoN"},
		{"R", "N,E", "NoE"},
		{"R", "E+N", "EoN"},
		{"R", "N+E", "NoE"},
		// two together
		{"R", "E,,E", "EooE"},
		{"R", "E++E", "EooE"},
		{"R", "E+,E", "EooE"},
		{"R", "E,+E", "EooE"},
		{"", "N,,N", "NooN"},
		{"", "N,+N", "NooN"},
		{"R", "E,,,E", "EoooE"},
		// at the front and at the end
		{"R", ",E", "oE"},
		{"R", "+E", "oE"},
		{"", ",N", "oN"},
		{"R", "E,", "Eo"},
		{"R", "E+", "Eo"},
		{"", "N,", "No"},
		{"", ",", "o"},
		{"", "+", "o"},
		{"R", ",E,E,", "oEEEo"},
		{"R", "+E+E+", "oEEEo"},
		{"", ",N,N,", "oNNNo"},
		// one behind another
		{"R", "E,E,E", "EEEEE"},
		{"R", "E+E,E+E", "EEEEEEE"},
		{"", "N,N,N", "NNNNN"},
		{"R", "E,E,N,N", "EEEoNNN"},
		{"R", "N,N,E,E", "NNNoEEE"},
		{"R", "E,E,,E,E", "EEEooEEE"},
		// beside what is no number
		{"R", "R,E", "RoE"},
		{"R", "E,R", "EoR"},
		{"R", "E+_E", "Eo_E"},
		{"R", "E0,E", "E0oE"},
		{"", "A,A", "AoA"},
		{"R", "R,R", "RoR"},
		{"L", "L,L", "LoL"},
	})
}

func TestTerminatorsBesideNumbers(t *testing.T) {
	checkWeakCases(t, impl.SignsOf, []weakCase{
		// behind and ahead of a number, and between two
		{"R", "E%", "EE"},
		{"R", "%E", "EE"},
		{"R", "E%%%", "EEEE"},
		{"R", "%%%E", "EEEE"},
		{"R", "E%E", "EEE"},
		{"R", "E%%%E", "EEEEE"},
		{"R", "%%E%%E%%", "EEEEEEEE"},
		// away from any
		{"", "%", "o"},
		{"", "%%%", "ooo"},
		{"", "N%", "No"},
		{"", "%N", "oN"},
		{"", "N%%N", "NooN"},
		{"R", "R%_E", "Ro_E"},
		{"R", "E_%%R", "E_ooR"},
		{"R", "E0%", "E0o"},
		// each run for itself
		{"R", "%%_%E%_%%", "oo_EEE_oo"},
		{"R", "%R%E", "oREE"},
		{"R", "E%R%%", "EERoo"},
		{"R", "N%E", "NEE"},
		{"R", "E%N%", "EENo"},
		{"R", "E%N%E", "EENEE"},
		// behind a separator that became a number's, and beside one that did not
		{"R", "E,E%", "EEEE"},
		{"R", "%E+E", "EEEE"},
		{"R", "E,%", "Eoo"},
		{"R", "%,E", "ooE"},
		{"R", "E,%E", "EoEE"},
		{"R", "E%,E", "EEoE"},
	})
}

func TestSignsThatAreLeft(t *testing.T) {
	checkWeakCases(t, impl.SignsOf, []weakCase{
		{"", "", ""},
		{"", "+%,", "ooo"},
		{"", "+", "o"},
		{"", "%", "o"},
		{"", ",", "o"},
		{"R", "E+R%N,", "EoRoNo"},
		{"L", "R+%,L", "RoooL"},
		// all else stays
		{"R", "LRAN^0/S_o12345<>?!", "LRAN^0/S_o12345<>?!"},
		{"L", "LRAN^0/S_o12345<>?!", "LRAN^0/S_o12345<>?!"},
	})
}

func TestNumbersOfASide(t *testing.T) {
	checkWeakCases(t, impl.SignsOf, []weakCase{
		// by what is ahead
		{"", "LE", "LL"},
		{"", "RE", "RE"},
		{"", "L_o<E", "L_o<L"},
		{"", "R_o!E", "R_o!E"},
		{"", "LRE", "LRE"},
		{"", "RLE", "RLL"},
		{"", "LEEREELE", "LLLREELL"},
		{"", "LNE", "LNL"}, // an AN is no letter
		{"", "RNE", "RNE"},
		{"", "LAE", "LAL"}, // nor is an AL here
		{"", "RAE", "RAE"},
		// by side
		{"L", "E", "L"},
		{"R", "E", "E"},
		{"L", "_E_E", "_L_L"},
		{"R", "_E_E", "_E_E"},
		{"L", "EREE", "LREE"},
		{"R", "ELEE", "ELLL"},
		{"L", "AE", "AL"},
		{"R", "AE", "AE"},
		{"L", "N", "N"},
		// what is behind does not tell
		{"R", "EL", "EL"},
		{"L", "ER", "LR"},
		// so does what has become EN
		{"L", "E,E%", "LLLL"},
		{"L", "%%E+E", "LLLLL"},
		{"L", "RE%LE%", "REELLL"},
	})
}

// Each of these cases would have another answer, if the steps stood in some other order, or were taken place by place.
func TestEachStepGoesThroughAllAheadOfTheNext(t *testing.T) {
	checkWeakCases(t, impl.NumbersOf, []weakCase{
		{"", "AE", "RN"},
		{"", "A_EAE", "R_NRN"},
	})
	checkWeakCases(t, impl.SignsOf, []weakCase{
		{"R", "E%,E", "EEoE"}, // the separator is not between two, though it is by the next step
		{"R", "E,%E", "EoEE"},
		{"R", "E%+%E", "EEoEE"},
		{"R", "%%E", "EEE"}, // none of them is left ahead of the number
		{"L", "E,E", "LLL"}, // the first one does not become L ahead of that
		{"L", "E%", "LL"},   // nor here
		{"L", "%E", "LL"},   // and the last one becomes L behind it
		{"", "LE+E%", "LLLLL"},
	})
	checkWeakCases(t, impl.WeakOf, []weakCase{
		{"", "AE^", "RNN"},    // the mark is the number's ahead of what becomes of that
		{"", "A^E", "RRN"},    // and the letter's
		{"R", "E,^E", "EooE"}, // so that it is not a single one any more
		{"", "AE,E", "RNNN"},  // a separator of EN is one of AN by then
		{"", "AE+E", "RNoN"},
		{"", "AE%", "RNo"},
		{"", "AE,N", "RNNN"},
		{"R", "E,AE", "EoRN"},
	})
}

func TestAllStepsTogether(t *testing.T) {
	checkWeakCases(t, impl.WeakOf, []weakCase{
		{"", "", ""},
		{"", "A", "R"},
		{"L", "^", "L"},
		{"R", "^", "R"},
		{"L", "E^,E", "LLLL"},
		{"R", "E^,E", "EEEE"},
		{"R", "<^E", "<oE"},
		{"L", "!^E", "!oL"},
		{"", "A<^E!^N", "R<oN!oN"},
		{"", "R%^E+E^%", "REEEEEEE"},
		{"", "L%^E+E^%", "LLLLLLLL"},
		{"", "A%^E+E^%", "RooNoNNo"},
		{"L", "^AE,^E", "LRNooN"},
		{"R", "N^,N", "NNNN"},
		{"", "LE_AE_RE_E", "LL_RN_RE_E"},
		{"", "AEL,E", "RNLoL"},
	})
}

// Each class, wherever it stands, in lists of all classes.
func TestWeakOfAllKinds(t *testing.T) {
	both := func(list []int64) {
		checkWeak(t, list, toL)
		checkWeak(t, list, toR)
	}
	allStrings(classKinds(), 2, both)
	allStrings(kindsOf("LRAE+%N,^_<!"), 4, both)
	allStrings(kindsOf("E%N,"), 6, both)
	allStrings(kindsOf("LAE,"), 6, both)
	r := rand.New(rand.NewSource(9))
	for range 2000 {
		both(randomText(r, classKinds(), r.Intn(30)))
		both(randomText(r, kindsOf("LRAEEEE++%%NNN,,,^^_<!"), r.Intn(60)))
		both(randomText(r, kindsOf("AREEEEE%%%NN,,"), r.Intn(60)))
	}
	for range 10 {
		both(randomText(r, classKinds(), impl.MaxText))
		both(randomText(r, kindsOf("AREEEEE%%%NN,,^"), impl.MaxText))
	}
	for _, s := range []string{"^", "E", "A", ",", "%", "N", "<"} { // one kind alone, but for the first one or the last one
		full := strings.Repeat(s, impl.MaxText-1)
		for _, other := range []string{"L", "R", "A", "E", "N", "!"} {
			both(kindsOf(other + full))
			both(kindsOf(full + other))
		}
	}
}

func checkWeak(t *testing.T, list []int64, side int64) {
	letters, sideLetter := lettersOf(list), lettersOf([]int64{side})
	for _, f := range weakFuncs() {
		got := f.ask(list, side)
		if want := f.oracle(letters, sideLetter); got.Code != impl.OK || lettersOf(got.Classes) != want {
			t.Fatal(f.name, letters, sideLetter, got.Code, lettersOf(got.Classes), want)
		}
	}
	weak := impl.WeakOf(list, side).Classes
	byHand := impl.SignsOf(impl.NumbersOf(impl.MarksOf(list, side).Classes, side).Classes, side).Classes
	if !slices.Equal(weak, byHand) {
		t.Fatal("one behind the other", letters, sideLetter, lettersOf(weak), lettersOf(byHand))
	}
	checkStays(t, letters, weak, side)
}

// Promise 7: numbers and their marks come to few classes, and stay as they are then.
func checkStays(t *testing.T, letters string, weak []int64, side int64) {
	if i := strings.IndexAny(lettersOf(weak), "A+%,^"); i >= 0 {
		t.Fatal("promise 7: not of the few classes", letters, side, lettersOf(weak))
	}
	for _, f := range weakFuncs() {
		if again := f.ask(weak, side); again.Code != impl.OK || !slices.Equal(again.Classes, weak) {
			t.Fatal("promise 7: does not stay under", f.name, letters, side, lettersOf(weak), lettersOf(again.Classes))
		}
	}
}

type classesCase struct {
	list       []int64
	side, want int64
}

// classesCases are at the bounds of all codes of ClassesFault, and have more than one fault where their order is asked.
func classesCases() []classesCase {
	full, tooMany := many(impl.ClassPDI, impl.MaxText), many(impl.ClassL, impl.MaxText+1)
	cases := []classesCase{
		{nil, toL, impl.OK},
		{nil, toR, impl.OK},
		{[]int64{}, toR, impl.OK},
		{classKinds(), toL, impl.OK},
		{full, toR, impl.OK},
		{full[:impl.MaxText-1], toL, impl.OK},
		{tooMany, toL, impl.ErrMany},
		{many(impl.ClassL, 2*impl.MaxText), toR, impl.ErrMany},
		{many(impl.ClassL, 1<<16+1), toR, impl.ErrMany},
		// too many is asked ahead of what they are, and that ahead of the side
		{append([]int64{-1}, full...), toL, impl.ErrMany},
		{append(slices.Clone(full), 23), toL, impl.ErrMany},
		{tooMany, 2, impl.ErrMany},
		{append([]int64{23}, full...), -1, impl.ErrMany},
	}
	for _, class := range noClasses() {
		cases = append(cases,
			classesCase{[]int64{class}, toL, impl.ErrRange},
			classesCase{[]int64{0, class}, toR, impl.ErrRange},
			classesCase{[]int64{class, 0}, toR, impl.ErrRange},
			classesCase{append(slices.Clone(full[1:]), class), toL, impl.ErrRange},
			classesCase{[]int64{8, class, 8}, 2, impl.ErrRange},
			classesCase{append([]int64{class}, full[1:]...), -1, impl.ErrRange},
		)
	}
	for _, side := range []int64{-1, 2, 3, 6, 8, 13, 22, 23, 1 << 32, 1<<32 + 1, -1 << 32, math.MaxInt64, math.MinInt64, math.MinInt64 + 1} {
		cases = append(cases,
			classesCase{nil, side, impl.ErrForm},
			classesCase{[]int64{}, side, impl.ErrForm},
			classesCase{[]int64{0, 8, 22}, side, impl.ErrForm},
			classesCase{full, side, impl.ErrForm},
		)
	}
	return cases
}

// noClasses are numbers that are no classes: just outside of both bounds, far outside, and such that low bits alone would be one.
func noClasses() []int64 {
	return []int64{-1, 23, 24, 31, 64, 256, -23, -256, 1 << 32, 1<<32 + 8, -1 << 32, math.MaxInt32, math.MaxInt64, math.MinInt64, math.MinInt64 + 8}
}

func TestClassesFault(t *testing.T) {
	for _, c := range classesCases() {
		if got := impl.ClassesFault(c.list, c.side); got != c.want {
			t.Error(len(c.list), c.side, got, c.want)
		}
	}
}

func TestWeakAsksClassesFault(t *testing.T) {
	for _, f := range weakFuncs() {
		for _, c := range classesCases() {
			got := f.ask(c.list, c.side)
			if got.Code != c.want || c.want != impl.OK && len(got.Classes) != 0 || c.want == impl.OK && len(got.Classes) != len(c.list) {
				t.Error(f.name, len(c.list), c.side, got, c.want)
			}
		}
	}
}

// Promise 1 as far as chapter 6 goes: no argument is changed, what is answered is new memory, and it hangs on the arguments alone.
func TestWeakSharesNothing(t *testing.T) {
	for _, f := range weakFuncs() {
		for _, s := range []string{"", "L", "^", "^^E", "AE,E", "E+E%,", "LE%%", "RE", "<^!^", "LRAE+%N,^0/S_o12345<>?!", strings.Repeat("AE^,%", impl.MaxText/5)} {
			checkSharesNothing(t, f, kindsOf(s))
		}
		checkSharesNothing(t, f, []int64{8, 8, 23})
		checkSharesNothing(t, f, many(impl.ClassNSM, impl.MaxText+1))
	}
}

func checkSharesNothing(t *testing.T, f weakFunc, plain []int64) {
	t.Helper()
	list := roomy(plain...)
	before := slices.Clone(list[:cap(list)])
	first, again := f.ask(list, toL), f.ask(list, toL)
	if !reflect.DeepEqual(first, again) || impl.ClassesFault(list, toL) != first.Code {
		t.Error(f.name, "two answers", plain)
	}
	scribble(again.Classes, 40)
	if !slices.Equal(list[:cap(list)], before) {
		t.Error(f.name, "changed", plain)
	}
	scribble(list, 7)
	if last := f.ask(plain, toL); last.Code != first.Code || !slices.Equal(last.Classes, first.Classes) {
		t.Error(f.name, "shared", plain)
	}
}
