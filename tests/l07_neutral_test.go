package tests

import (
	"math"
	"math/rand"
	"reflect"
	"slices"
	"strings"
	"testing"

	"loop.example/g00739/impl"
)

type partFunc struct {
	name   string
	ask    func(p impl.Part) impl.ClassesResult
	oracle func(p impl.Part) string
}

// partFuncs are the functions of chapter 7 that tell classes.
func partFuncs() []partFunc {
	return []partFunc{
		{"brackets", impl.BracketsOf, bracketsByLetters},
		{"neutrals", impl.NeutralsOf, func(p impl.Part) string { return neutralsByLetters(lettersOf(p.Now), p) }},
		{"sides", impl.SidesOf, func(p impl.Part) string { return neutralsByLetters(bracketsByLetters(p), p) }},
	}
}

// A pairsCase tells its pairs as places, one behind the other.
type pairsCase struct {
	part string
	want []int64
}

func checkPairsCases(t *testing.T, cases []pairsCase) {
	t.Helper()
	for _, c := range cases {
		got := impl.PairsOf(partOf(c.part, 0, toL, toL))
		var places []int64
		for _, pair := range got.Pairs {
			places = append(places, pair.Open, pair.Close)
		}
		if got.Code != impl.OK || !slices.Equal(places, c.want) {
			t.Errorf("%q: code %d, %v and not %v", c.part, got.Code, places, c.want)
		}
	}
}

func TestPairsStand(t *testing.T) {
	checkPairsCases(t, []pairsCase{
		{"", nil},
		{"LR_", nil},
		{"()", []int64{0, 1}},
		{"L(R)E", []int64{1, 3}},
		// one behind the other
		{"()()", []int64{0, 1, 2, 3}},
		{"(L)_[R]", []int64{0, 2, 4, 6}},
		{"()[]{}bdpq", []int64{0, 1, 2, 3, 4, 5, 6, 7, 8, 9}},
		// one in the other
		{"(())", []int64{0, 3, 1, 2}},
		{"([{}])", []int64{0, 5, 1, 4, 2, 3}},
		{"L(R[E]N)_", []int64{1, 7, 3, 5}},
		{"(()[])", []int64{0, 5, 1, 2, 3, 4}},
		{"((()))()", []int64{0, 5, 1, 4, 2, 3, 6, 7}},
	})
}

func TestPairsThatCross(t *testing.T) {
	checkPairsCases(t, []pairsCase{
		{"([)]", []int64{0, 2}},
		{"[(])", []int64{0, 2}},
		{"([{)]}", []int64{0, 3}},
		{"([{])}", []int64{0, 4, 1, 3}},
		{"(L[)R]", []int64{0, 3}},
		{"([)](])", []int64{0, 2, 4, 6}},
		{"[(])()", []int64{0, 2, 4, 5}},
		{"[([)])", []int64{0, 4, 1, 3}},
	})
}

func TestPairsThatAreNone(t *testing.T) {
	checkPairsCases(t, []pairsCase{
		// a closing one that has nothing to close
		{")", nil},
		{")(", nil},
		{"]()", []int64{1, 2}},
		{"())", []int64{0, 1}},
		{"(])", []int64{0, 2}},
		{"()]", []int64{0, 1}},
		{"[)]", []int64{0, 2}},
		{"(}])", []int64{0, 3}},
		// an opening one that is never closed
		{"(", nil},
		{"((", nil},
		{"(()", []int64{1, 2}},
		{"([)", []int64{0, 2}},
		{"()(", []int64{0, 1}},
		{"([(]", []int64{1, 3}},
		{"[((]", []int64{0, 3}},
		// the last one open is the one that is closed
		{"((L)", []int64{1, 3}},
		{"(((L))", []int64{1, 5, 2, 4}},
		// of another kind
		{"(]", nil},
		{"[)", nil},
		{"{)", nil},
		{"(d", nil},
		{"b)", nil},
		// what has a mirror, but is no bracket
		{"yz", nil},
		{"(yz)", []int64{0, 3}},
		{"y(z)", []int64{1, 3}},
	})
}

func TestPairsOfTheSameName(t *testing.T) {
	checkPairsCases(t, []pairsCase{
		{"bd", []int64{0, 1}},
		{"pq", []int64{0, 1}},
		{"bq", []int64{0, 1}},
		{"pd", []int64{0, 1}},
		{"bpdq", []int64{0, 3, 1, 2}},
		{"bpqd", []int64{0, 3, 1, 2}},
		{"p(q)", []int64{0, 2}},
		{"b(dq", []int64{0, 2}},
		{"db", nil},
		{"qp", nil},
		{"yd", nil},
		{"bz", nil},
	})
}

func TestPairsAreNeutralByNow(t *testing.T) {
	checkPairsCases(t, []pairsCase{
		{"jk", nil},
		{"JK", nil},
		{"jK", nil},
		{"j)", nil},
		{"(k", nil},
		{"(K)", []int64{0, 2}},
		{"(J)", []int64{0, 2}},
		{"(jk)", []int64{0, 3}},
		{"((k)", []int64{1, 3}},
		{"([k])", []int64{0, 4, 1, 3}},
		{"[j]", []int64{0, 2}},
		// whatever they were at first
		{"uv", []int64{0, 1}},
		{"wx", []int64{0, 1}},
		{"(v", []int64{0, 1}},
		{"w)", []int64{0, 1}},
	})
	for _, class := range classKinds() {
		p := partOf("([])", 0, toL, toL)
		p.Now[1] = class
		want := []impl.Pair{{Open: 0, Close: 3}}
		if class == impl.ClassON {
			want = append(want, impl.Pair{Open: 1, Close: 2})
		}
		if got := impl.PairsOf(p); got.Code != impl.OK || !slices.Equal(got.Pairs, want) {
			t.Error("opening", class, got)
		}
		p = partOf("([])", 0, toL, toL)
		p.Now[2], p.Firsts[1], p.Firsts[2] = class, class, class
		if got := impl.PairsOf(p); got.Code != impl.OK || !slices.Equal(got.Pairs, want) {
			t.Error("closing", class, got)
		}
	}
}

// pairsInDepth are those of so many opening brackets and as many closing ones behind them, from place on.
func pairsInDepth(place, depth int64) []int64 {
	var want []int64
	for i := range depth {
		want = append(want, place+i, place+2*depth-1-i)
	}
	return want
}

func TestPairsHaveRoom(t *testing.T) {
	deep := func(opening, closing string, depth int) string {
		return strings.Repeat(opening, depth) + strings.Repeat(closing, depth)
	}
	checkPairsCases(t, []pairsCase{
		{deep("(", ")", 62), pairsInDepth(0, 62)},
		{deep("(", ")", 63), pairsInDepth(0, 63)},
		{deep("(", ")", 64), nil},
		{deep("(", ")", 300), nil},
		{"[]" + deep("b", "q", 63), append([]int64{0, 1}, pairsInDepth(2, 63)...)},
		// one too many takes all of them, also those that are pairs ahead of it, or would be behind it
		{"[]" + deep("(", ")", 64), nil},
		{strings.Repeat("(", 64), nil},
		{strings.Repeat("(", 63) + "[]", nil},
		{strings.Repeat("([{", 21) + "b)", nil},
		{"()()" + strings.Repeat("(", 63) + "[" + strings.Repeat(")", 63) + "[]", nil},
		// what is no opening bracket, or none by now, needs no room
		{strings.Repeat("(", 63) + "jJy<" + ")", []int64{62, 67}},
		{strings.Repeat("j", 64) + "()", []int64{64, 65}},
		{strings.Repeat("(j", 63) + ")", []int64{124, 126}},
		{strings.Repeat("(", 63) + "]])", []int64{62, 65}},
		{strings.Repeat("y", 100) + "()" + strings.Repeat("z", 100), []int64{100, 101}},
		{strings.Repeat("]", 100) + "()", []int64{100, 101}},
		// one more behind some that have been closed
		{strings.Repeat("(", 63) + ")(", []int64{62, 63}},
		{strings.Repeat("(", 63) + ")()", []int64{62, 63, 64, 65}},
		{strings.Repeat("(", 63) + ")((", nil},
		{strings.Repeat("(", 63) + "))(()", []int64{61, 64, 62, 63, 66, 67}},
		{strings.Repeat("(", 63) + "))(((", nil},
		// with one, all that stand behind it are closed
		{"[" + strings.Repeat("(", 62) + "]" + strings.Repeat("(", 63), []int64{0, 63}},
		{"[" + strings.Repeat("(", 62) + "]" + strings.Repeat("(", 64), nil},
		{"([" + strings.Repeat("(", 61) + "]" + strings.Repeat("{", 62), []int64{1, 63}},
		{"([" + strings.Repeat("(", 61) + "]" + strings.Repeat("{", 63), nil},
		{strings.Repeat("()", 300), pairsInARow(300)},
	})
}

func pairsInARow(count int64) []int64 {
	var want []int64
	for i := range 2 * count {
		want = append(want, i)
	}
	return want
}

// The sides of a partCase are that ahead and that behind; the part is written in partLetters, and want in classLetters. Where that
// is "=", nothing changes.
type partCase struct {
	level             int64
	sides, part, want string
}

func checkPartCases(t *testing.T, ask func(p impl.Part) impl.ClassesResult, cases []partCase) {
	t.Helper()
	for _, c := range cases {
		sides := kindsOf(c.sides)
		p := partOf(c.part, c.level, sides[0], sides[1])
		if c.want == "=" {
			c.want = lettersOf(p.Now)
		}
		if got := ask(p); got.Code != impl.OK || lettersOf(got.Classes) != c.want {
			t.Errorf("level %d, sides %s, %q: code %d, %q and not %q", c.level, c.sides, c.part, got.Code, lettersOf(got.Classes), c.want)
		}
	}
}

// checkBracketsCases is told the side ahead alone, and asks with both sides behind, because that does not tell.
func checkBracketsCases(t *testing.T, cases []partCase) {
	t.Helper()
	for _, eos := range []string{"L", "R"} {
		withEos := slices.Clone(cases)
		for i := range withEos {
			withEos[i].sides += eos
		}
		checkPartCases(t, impl.BracketsOf, withEos)
	}
}

func TestBracketsOfTheWay(t *testing.T) {
	checkBracketsCases(t, []partCase{
		{0, "L", "", ""},
		{0, "L", "(L)", "LLL"},
		{0, "R", "(L)", "LLL"},
		{1, "L", "(R)", "RRR"},
		{1, "R", "(R)", "RRR"},
		{2, "R", "(L)", "LLL"},
		{125, "L", "(R)", "RRR"},
		{126, "R", "(L)", "LLL"},
		// wherever it is between, and whatever else is
		{0, "R", "(_RL_)", "L_RL_L"},
		{0, "R", "(RLR)", "LRLRL"},
		{0, "R", "R(LR)R", "RLLRLR"},
		{1, "L", "L(RL)L", "LRRLRL"},
		{1, "L", "L(LR)L", "LRLRRL"},
		{1, "L", "L(LLLLR)L", "LRLLLLRRL"},
		{0, "R", "R(LRRRR)R", "RLLRRRRLR"},
		{1, "L", "L[_o/S<>?!R]L", "LR_o/S<>?!RRL"},
		// of each kind
		{0, "R", "[L]{L}bLdpLqbLq", "LLLLLLLLLLLLLLL"},
		{1, "L", "[R]{R}bRdpRqpRd", "RRRRRRRRRRRRRRR"},
		// what is of the way by now, not at first
		{0, "R", "(h)", "LLL"},
		{1, "L", "(i)", "RRR"},
	})
}

func TestBracketsOfTheOtherSide(t *testing.T) {
	checkBracketsCases(t, []partCase{
		// behind the other side
		{0, "L", "R(R)", "RRRR"},
		{1, "R", "L(L)", "LLLL"},
		{0, "L", "R_o(R)", "R_oRRR"},
		{1, "R", "L<o(L)L", "L<oLLLL"},
		{0, "L", "LR(R)L", "LRRRRL"},
		{1, "R", "RL+%,A^(L)", "RL+%,AoLLL"},
		// behind the way
		{0, "R", "L(R)", "LLRL"},
		{1, "L", "R(L)", "RRLR"},
		{0, "R", "L_(R)R", "L_LRLR"},
		{1, "L", "R_(L)L", "R_RLRL"},
		{0, "R", "RL(R)R", "RLLRLR"},
		{1, "L", "LR(L)L", "LRRLRL"},
		// behind Sos
		{0, "R", "(R)", "RRR"},
		{0, "L", "(R)", "LRL"},
		{1, "L", "(L)", "LLL"},
		{1, "R", "(L)", "RLR"},
		{0, "R", "_o(R)L", "_oRRRL"},
		{0, "L", "_+(R)R", "_+LRLR"},
		{1, "L", "A^(L)R", "AoLLLR"},
		{1, "R", "An(L)L", "A^RLRL"},
		{2, "R", "(R)", "RRR"},
		{125, "L", "(L)", "LLL"},
		{126, "L", "(R)", "LRL"},
	})
}

func TestBracketsWithNoSide(t *testing.T) {
	checkBracketsCases(t, []partCase{
		{0, "L", "()", "="},
		{1, "R", "()", "="},
		{0, "R", "R()R", "="},
		{1, "L", "L(_)L", "="},
		{0, "R", "(_o/S<>?!)", "="},
		{1, "L", "(+%,0A12345^n)", "="},
		{0, "L", "L(A)L", "="},
		{1, "L", "R(A)R", "="},
		{0, "R", "(u)", "="},
		// what has a side, but not between
		{0, "L", "L()L", "="},
		{1, "R", "R()R", "="},
		{0, "R", "L(_)L", "="},
		// no pairs
		{0, "R", "(L", "="},
		{0, "R", "L)", "="},
		{1, "L", "(R]", "="},
		{0, "R", "jLk", "="},
		{1, "L", "JRK", "="},
		{1, "L", "yRz", "="},
		{0, "R", strings.Repeat("(", 63) + "(L)", "="},
	})
}

func TestBracketsWithNumbers(t *testing.T) {
	checkBracketsCases(t, []partCase{
		// a number goes to the left, whatever the way
		{1, "L", "(E)", "RER"},
		{1, "L", "(N)", "RNR"},
		{1, "L", "L(LE)L", "LRLERL"},
		{0, "L", "(E)", "LEL"},
		{0, "L", "(N)", "LNL"},
		{0, "R", "(E)", "RER"},
		{0, "R", "(N)", "RNR"},
		{0, "R", "L(E)", "LLEL"},
		{0, "R", "L(N)", "LLNL"},
		{0, "R", "(LE)", "LLEL"},
		// and so does one that is ahead
		{0, "L", "E(R)", "ERRR"},
		{0, "L", "N(R)", "NRRR"},
		{0, "L", "LE_(R)", "LE_RRR"},
		{1, "L", "E(L)", "ERLR"},
		{1, "L", "N_(L)", "N_RLR"},
		{1, "L", "LN(L)", "LNRLR"},
		{0, "L", "E(N)", "ERNR"},
		{0, "R", "EL(N)", "ELLNL"},
	})
}

func TestBracketsByThen(t *testing.T) {
	checkBracketsCases(t, []partCase{
		// within one that became a side, that is ahead
		{0, "R", "(L[R])", "LLLRLL"},
		{0, "R", "([R]L)", "LLRLLL"},
		{1, "L", "([L]R)", "RRLRRR"},
		{1, "L", "(R[L])", "RRRLRR"},
		{0, "R", "([R])", "RRRRR"},
		{1, "R", "([L])", "RRLRR"},
		{1, "L", "([L])", "LLLLL"},
		{0, "R", "L([R])", "LLLRLL"},
		{0, "L", "R(R[_L])", "RLRL_LLL"},
		{0, "R", "({[R]}L)", "LLLRLLLL"},
		// behind one that became a side
		{0, "R", "(L)(R)", "LLLLRL"},
		{0, "R", "(L)_[R]", "LLL_LRL"},
		{1, "L", "(R)[L]", "RRRRLR"},
		{0, "L", "R(R)(R)", "RRRRRRR"},
		{0, "L", "(R)(R)", "LRLLRL"},
		{0, "R", "(L)()[R]", "LLLooLRL"},
		{1, "L", "(L)(R)(L)", "LLLRRRRLR"},
		// within one that became nothing
		{0, "R", "()[R]", "ooRRR"},
	})
}

func TestMarksBehindBrackets(t *testing.T) {
	checkBracketsCases(t, []partCase{
		// behind an opening one and behind a closing one
		{0, "R", "(^L)^", "LLLLL"},
		{0, "R", "(^^L)^^", "LLLLLLL"},
		{1, "L", "(^R)", "RRRR"},
		{1, "L", "(R)^", "RRRR"},
		{0, "L", "R(^R)^", "RRRRRR"},
		{0, "R", "L(^R)^^^", "LLLRLLLL"},
		// up to the first one that was none
		{0, "R", "(^_^L)^o^", "LL_oLLLoo"},
		{0, "R", "(_^L)_^", "L_oLL_o"},
		{1, "L", "R[^^o^R]^^_^", "RRRRooRRRR_o"},
		{0, "R", "(^L)^R^", "LLLLLRo"},
		// that are neutral by now, or what else
		{0, "R", "(nL)n", "LLLLL"},
		{0, "R", "(rL)r", "LLLLL"},
		{1, "L", "(lR)l", "RRRRR"},
		{0, "R", "(^nrlL)lrn^o", "LLLLLLLLLLLo"},
		{0, "R", "L(rR)r_r", "LLLRLL_R"},
		// of brackets that became none, and of what is no bracket
		{0, "R", "(^)^", "="},
		{0, "R", "(^L]^", "="},
		{0, "R", "L^R^o^", "="},
		{0, "R", "j^L", "="},
		{0, "R", "(L_^)", "LL_oL"},
		// one that is between has its side, as long as no bracket ahead became one
		{0, "R", "(l)", "LLL"},
		{1, "R", "L(l)", "LLLL"},
		{0, "L", "R(r)", "RRRR"},
		// by then: what a pair ahead made of them
		{0, "L", "(L)^[R]", "LLLLLRL"},
		{0, "R", "(L)l[R]", "LLLLLRL"},
		{0, "R", "(L)r[R]", "LLLLLRL"},
		{1, "R", "L(L)r[L]", "LLLLLLLL"},
		{0, "R", "([r]L)", "LLLLLL"},
		// a bracket that was a mark
		{0, "R", "(vL)", "="},
		{0, "R", "(uLv)", "LLLLL"},
		{0, "R", "(uRvL)", "LLRLLL"},
		{0, "R", "(L)uR)", "LLLLRL"},
		{0, "R", "(u^)R)", "RRRRRR"}, // a mark became the side that the pair within has between
	})
}

func TestNeutralsAtTheEnds(t *testing.T) {
	checkPartCases(t, impl.NeutralsOf, []partCase{
		{0, "LL", "", ""},
		// at the front
		{0, "LL", "_L", "LL"},
		{0, "RR", "_R", "RR"},
		{0, "RL", "_R", "RR"},
		{0, "LR", "_R", "LR"},
		{0, "RL", "_L", "LL"},
		{1, "LR", "_L", "LL"},
		{1, "RL", "_L", "RL"},
		{1, "LR", "_R", "RR"},
		{1, "RL", "___R", "RRRR"},
		{0, "RR", "_S/oE", "RRRRE"},
		{0, "LR", "_N", "LN"},
		{1, "LR", "_N", "RN"},
		// at the end
		{0, "LL", "L_", "LL"},
		{0, "LR", "R_", "RR"},
		{0, "RL", "R_", "RL"},
		{0, "LR", "L_", "LL"},
		{1, "RL", "L_", "LL"},
		{1, "LR", "L_", "LR"},
		{1, "LL", "R_", "RR"},
		{1, "LL", "L___", "LLLL"},
		{0, "LR", "E_", "ER"},
		{0, "RL", "E_", "EL"},
		{0, "LR", "N<", "NR"},
		// alone
		{0, "LL", "_", "L"},
		{1, "LL", "_", "L"},
		{0, "RR", "_", "R"},
		{1, "RR", "_", "R"},
		{0, "LR", "_", "L"},
		{0, "RL", "_o", "LL"},
		{1, "LR", "_", "R"},
		{1, "RL", "_o", "RR"},
		{125, "LR", "_", "R"},
		{126, "LR", "_", "L"},
	})
}

func TestNeutralsBetweenSides(t *testing.T) {
	checkPartCases(t, impl.NeutralsOf, []partCase{
		{0, "RR", "L_L", "LLL"},
		{1, "RR", "L_L", "LLL"},
		{0, "LL", "R_R", "RRR"},
		{1, "LL", "R_R", "RRR"},
		// between two sides
		{0, "RR", "L_R", "LLR"},
		{0, "RR", "R_L", "RLL"},
		{1, "LL", "L_R", "LRR"},
		{1, "LL", "R_L", "RRL"},
		{125, "LL", "R__L", "RRRL"},
		{126, "RR", "R__L", "RLLL"},
		// between numbers, and between a number and a letter
		{0, "LL", "E_E", "ERE"},
		{0, "LL", "N_N", "NRN"},
		{0, "LL", "E_N_E", "ERNRE"},
		{0, "LL", "R_E_R", "RRERR"},
		{0, "LL", "R_N_R", "RRNRR"},
		{0, "RR", "L_E", "LLE"},
		{0, "RR", "E_L", "ELL"},
		{1, "LL", "L_N", "LRN"},
		{1, "LL", "N_L", "NRL"},
		{1, "LL", "E_E", "ERE"},
		// each kind, and all kinds together
		{0, "LL", "R/RSR_RoR<R>R?R!R", "RRRRRRRRRRRRRRRRR"},
		{1, "RR", "L/LSL_LoL<L>L?L!L", "LLLLLLLLLLLLLLLLL"},
		{0, "LL", "R/S_o<>?!R", "RRRRRRRRRR"},
		{1, "LL", "L!?><o_S/R", "LRRRRRRRRR"},
		// brackets and marks that are neutral by now, as all else
		{0, "LL", "R([{bp^)R", "RRRRRRRRR"},
		{1, "RR", "L(R)L", "LRRRL"},
		{0, "LL", "R(L)R", "RLLLR"},
		// each run for itself
		{0, "RL", "_R_L_E_N_L_", "RRLLLERNLLL"},
		{1, "LR", "_R_L_L_R_", "RRRLLLRRR"},
		// what was neutral at first, and is a letter by now
		{0, "LL", "RhR", "="},
		{1, "RR", "LiL", "="},
		{0, "LL", "RjkJKlrR", "="},
		{0, "LL", "h_i", "LLR"},
		{0, "LL", "i_r", "RRR"},
	})
}

// What has no side, and is no such class, counts as Sos ahead of a run, and as Eos behind one.
func TestNeutralsBesideWhatHasNoSide(t *testing.T) {
	for _, other := range "A+%,n012345" {
		o := string(other)
		now := o
		if other == 'n' {
			now = "^"
		}
		checkPartCases(t, impl.NeutralsOf, []partCase{
			{0, "LL", o, now},
			{1, "RL", o + o, now + now},
			// ahead
			{0, "RL", o + "_R", now + "RR"},
			{0, "LR", o + "_R", now + "LR"},
			{1, "LR", o + "_L", now + "LL"},
			{1, "RL", o + "_L", now + "RL"},
			{0, "RL", "L" + o + "_R", "L" + now + "RR"}, // not the one ahead of it
			{1, "LR", "R" + o + "_L", "R" + now + "LL"},
			{0, "RL", o + "_E", now + "RE"},
			// behind
			{0, "LR", "R_" + o, "RR" + now},
			{0, "RL", "R_" + o, "RL" + now},
			{1, "RL", "L_" + o, "LL" + now},
			{1, "LR", "L_" + o, "LR" + now},
			{0, "LR", "R_" + o + "L", "RR" + now + "L"}, // not the one behind it
			{1, "RL", "L_" + o + "R", "LL" + now + "R"},
			{0, "LR", "N_" + o, "NR" + now},
			// on both sides
			{0, "RR", o + "_" + o, now + "R" + now},
			{1, "LL", o + "_" + o, now + "L" + now},
			{0, "RL", o + "_" + o, now + "L" + now},
			{1, "RL", o + "_" + o, now + "R" + now},
			{0, "LR", o + "_" + o, now + "L" + now},
			{1, "LR", o + "_" + o, now + "R" + now},
			{0, "RL", "R_" + o + "_R", "RL" + now + "RR"},
			{1, "RL", "L_" + o + "_L", "LL" + now + "RL"},
		})
	}
}

func TestSidesAreNeutralsBehindBrackets(t *testing.T) {
	checkPartCases(t, impl.SidesOf, []partCase{
		{0, "LL", "", ""},
		{0, "RR", "(L)", "LLL"},
		{1, "LL", "(R)", "RRR"},
		{0, "RR", "()", "RR"},
		{1, "LL", "R()L", "RRRL"},
		{0, "RR", "_(L)_R", "LLLLLR"}, // what is beside a bracket goes by what that became
		{1, "LL", "_(R)_L", "RRRRRL"},
		{1, "RR", "R_L(L)", "RRLLLL"},
		{1, "RR", "L(L)_L", "LLLLLL"},
		{1, "RR", "L(L)_R", "LLLLRR"},
		{1, "RR", "L_(L_R)_R", "LRRLRRRRR"},
		{1, "RR", "RR(RR[oLL]o)LL", "RRRRRRRLLRRRLL"},
		{0, "RR", "(^L)^_R", "LLLLLLR"},
		{0, "RR", "R(L", "RLL"},
		{0, "RR", "L(R]_L)_", "LLRLLLLL"},
		{0, "LL", "R(N)_E", "RRNRRE"},
		{1, "LL", "+(A)", "+LAL"},
		{1, "RL", "L(<L!)o", "LLLLLLL"},
		{0, "RL", "({R)}", "RRRRL"},
	})
}

type faultCase struct {
	p    impl.Part
	want int64
}

// faultCases are at the bounds of all codes of PartFault, and have more than one fault where their order is asked.
func faultCases() []faultCase {
	one := []int64{0}
	tooMany := many(0, impl.MaxText+1)
	var cases []faultCase
	for _, code := range []int64{impl.ErrMany, impl.ErrRange} {
		for _, text := range faultyTexts(code) {
			same := many(impl.ClassON, min(len(text), impl.MaxText))
			cases = append(cases,
				faultCase{impl.Part{Text: text, Firsts: same, Now: same}, code},
				faultCase{impl.Part{Text: text}, code},
				faultCase{impl.Part{Text: text, Firsts: []int64{-1}, Now: tooMany, Level: -1, Sos: 2, Eos: 2}, code},
				faultCase{impl.Part{Text: text, Firsts: tooMany, Now: []int64{23}, Level: 127, Sos: -1, Eos: -1}, code},
				faultCase{impl.Part{Text: text, Firsts: same, Now: same, Sos: 13}, code},
				faultCase{impl.Part{Text: text, Firsts: same, Now: same, Eos: 13}, code},
				faultCase{impl.Part{Text: text, Firsts: same, Now: same, Level: 127}, code},
			)
		}
	}
	for _, c := range classesCases() {
		text := many(97, min(len(c.list), impl.MaxText))
		good := many(0, len(text))
		cases = append(cases,
			faultCase{impl.Part{Text: text, Firsts: c.list, Now: good, Sos: c.side, Eos: toR}, c.want},
			faultCase{impl.Part{Text: text, Firsts: good, Now: c.list, Sos: toR, Eos: c.side}, c.want},
			faultCase{impl.Part{Text: text, Firsts: c.list, Now: c.list, Level: 126, Sos: c.side, Eos: c.side}, c.want},
		)
		if c.want == impl.OK {
			continue
		}
		cases = append(cases,
			// ahead of that of the other list and its side, and of all behind
			faultCase{impl.Part{Text: text, Firsts: c.list, Now: tooMany, Sos: c.side}, c.want},
			faultCase{impl.Part{Text: text, Firsts: c.list, Now: []int64{-1}, Sos: c.side, Eos: 2}, c.want},
			faultCase{impl.Part{Text: text, Firsts: c.list, Now: good, Sos: c.side, Eos: 2}, c.want},
			faultCase{impl.Part{Firsts: c.list, Sos: c.side, Level: -1}, c.want},
			faultCase{impl.Part{Text: []int64{10, 97, 10, 97}, Firsts: c.list, Now: one, Sos: c.side, Level: 127}, c.want},
			faultCase{impl.Part{Now: c.list, Eos: c.side, Level: -1}, c.want},
			faultCase{impl.Part{Text: []int64{10, 97, 10, 97}, Firsts: one, Now: c.list, Eos: c.side, Level: 127}, c.want},
		)
	}
	return append(append(cases, countCases()...), levelCases()...)
}

// countCases are such that just one, or none, has as many as another one.
func countCases() []faultCase {
	var cases []faultCase
	sizes := []int{0, 1, 2, 3, impl.MaxText - 1, impl.MaxText}
	for _, a := range sizes {
		for _, b := range sizes {
			for _, c := range sizes {
				p := impl.Part{Text: many(97, a), Firsts: many(8, b), Now: many(13, c), Sos: toL, Eos: toR}
				code := int64(impl.ErrState)
				if a == b && b == c {
					code = impl.OK
				}
				cases = append(cases, faultCase{p, code})
				if code == impl.ErrState {
					p.Level = 127
					cases = append(cases, faultCase{p, code})
					p.Level = -1
					cases = append(cases, faultCase{p, code})
				}
			}
		}
	}
	return cases
}

func levelCases() []faultCase {
	var cases []faultCase
	for _, letters := range []string{"", "(L)", "R_(^R)", strings.Repeat("(L)", 200)} {
		for _, level := range []int64{0, 1, 2, 61, 62, 124, 125, 126} {
			cases = append(cases, faultCase{partOf(letters, level, toL, toR), impl.OK})
		}
		for _, level := range []int64{-1, 127, 128, -2, 256, 1 << 32, 1<<32 + 1, -1 << 32, math.MaxInt32, math.MaxInt64, math.MinInt64, math.MinInt64 + 1} {
			cases = append(cases, faultCase{partOf(letters, level, toL, toR), impl.ErrRange})
		}
	}
	return cases
}

func TestPartFault(t *testing.T) {
	for _, c := range faultCases() {
		if got := impl.PartFault(c.p); got != c.want {
			t.Error(len(c.p.Text), len(c.p.Firsts), len(c.p.Now), c.p.Level, c.p.Sos, c.p.Eos, got, c.want)
		}
	}
}

func TestOthersAskPartFault(t *testing.T) {
	for _, c := range faultCases() {
		if got := impl.PairsOf(c.p); got.Code != c.want || c.want != impl.OK && len(got.Pairs) != 0 {
			t.Error("pairs", len(c.p.Text), len(c.p.Firsts), len(c.p.Now), c.p.Level, c.p.Sos, c.p.Eos, got, c.want)
		}
		for _, f := range partFuncs() {
			got := f.ask(c.p)
			if got.Code != c.want || c.want != impl.OK && len(got.Classes) != 0 || c.want == impl.OK && len(got.Classes) != len(c.p.Text) {
				t.Error(f.name, len(c.p.Text), len(c.p.Firsts), len(c.p.Now), c.p.Level, c.p.Sos, c.p.Eos, got, c.want)
			}
		}
	}
}

// atAllSides asks of each level that has another way, and of all sides ahead and behind.
func atAllSides(letters string, each func(p impl.Part)) {
	p := partOf(letters, 0, toL, toL)
	for level := range int64(2) {
		for _, sos := range []int64{toL, toR} {
			for _, eos := range []int64{toL, toR} {
				p.Level, p.Sos, p.Eos = level, sos, eos
				each(p)
			}
		}
	}
}

// Each letter of a part, wherever it stands; and those that tell, in longer ones.
func TestPartsOfAllKinds(t *testing.T) {
	check := func(letters []byte) {
		atAllSides(string(letters), func(p impl.Part) { checkPart(t, p) })
	}
	var all []byte
	for letter := range partLetters {
		all = append(all, letter)
	}
	slices.Sort(all) // so that each run draws the same parts
	allStrings(all, 2, check)
	allStrings([]byte("()[LR_^"), 4, check)
	allStrings([]byte("(LRE_A<"), 4, check)
	allStrings([]byte("()LR"), 6, check)
	allStrings([]byte("()[]"), 6, check)
	r := rand.New(rand.NewSource(11))
	draw := func(letters string, size int) []byte {
		out := make([]byte, size)
		for i := range out {
			out[i] = letters[r.Intn(len(letters))]
		}
		return out
	}
	for range 1500 {
		check(draw(string(all), r.Intn(40)))
		check(draw("(((([[[)))]]]{}bdpqLRENA^^_o", r.Intn(60)))
		check(draw("((([[))]]uvLLLLLL^^lr_", r.Intn(30)))
		check(draw("((([[))]]uvRRRRRR^^lr_", r.Intn(30)))
	}
	for range 5 {
		check(draw(string(all), impl.MaxText))
		check(draw("(([[))]]LRENA^_o", impl.MaxText))
		check(draw("((((((((((()^L_", 130))
		check(draw("(((((((((([[[[))]R_", 130))
	}
}

func checkPart(t *testing.T, p impl.Part) {
	pairs := impl.PairsOf(p)
	if pairs.Code != impl.OK || !slices.Equal(pairs.Pairs, pairsByReach(p)) {
		t.Fatal("pairs", p, pairs, pairsByReach(p))
	}
	checkPairsStand(t, p, pairs.Pairs)
	for _, f := range partFuncs() {
		if got, want := f.ask(p), f.oracle(p); got.Code != impl.OK || lettersOf(got.Classes) != want {
			t.Fatal(f.name, p, got.Code, lettersOf(got.Classes), want)
		}
	}
	behind := p
	behind.Now = impl.BracketsOf(p).Classes
	if !slices.Equal(impl.SidesOf(p).Classes, impl.NeutralsOf(behind).Classes) {
		t.Fatal("one behind the other", p)
	}
}

// Promise 8: pairs of brackets stand one in the other, or one behind the other.
func checkPairsStand(t *testing.T, p impl.Part, pairs []impl.Pair) {
	for i, a := range pairs {
		open, end := impl.BracketOf(p.Text[a.Open]), impl.BracketOf(p.Text[a.Close])
		if a.Open >= a.Close || !open.Open || end.Open || open.Code != impl.OK || end.Code != impl.OK || open.Name != end.Name {
			t.Fatal("no pair", p, a)
		}
		for _, b := range pairs[i+1:] {
			if a.Open >= b.Open || a.Close == b.Open || a.Close > b.Open && a.Close <= b.Close {
				t.Fatal("promise 8: neither in the other nor behind it, or not rising", p, a, b)
			}
		}
	}
}

// partsByChapters are the parts of a paragraph: what chapters 4, 5 and 6 tell of its sequences.
func partsByChapters(t *testing.T, text []int64, base int64) []impl.Part {
	told, sequences := impl.ExplicitOf(text, base), impl.SequencesOf(text, base)
	if told.Code != impl.OK || sequences.Code != impl.OK {
		t.Fatal(text, base, told.Code, sequences.Code)
	}
	var parts []impl.Part
	for _, s := range sequences.List {
		p := impl.Part{Level: s.Level, Sos: s.Sos, Eos: s.Eos}
		for _, place := range s.Places {
			p.Text, p.Firsts = append(p.Text, text[place]), append(p.Firsts, told.Classes[place])
		}
		p.Now = impl.WeakOf(p.Firsts, s.Sos).Classes
		parts = append(parts, p)
	}
	return parts
}

// Promise 8: in the end nothing is left without a side.
func TestNothingIsLeftWithoutASide(t *testing.T) {
	check := func(text []int64) {
		for base := range int64(2) {
			for _, p := range partsByChapters(t, text, base) {
				checkPart(t, p)
				for place, class := range impl.SidesOf(p).Classes {
					now := p.Now[place]
					kept := now == impl.ClassL || now == impl.ClassR || now == impl.ClassEN || now == impl.ClassAN
					if class != impl.ClassL && class != impl.ClassR && !kept || kept && class != now {
						t.Fatal("promise 8: without a side", text, base, p, class)
					}
				}
			}
		}
	}
	kinds := []int64{97, 1488, 1569, 49, '+', '%', 1632, ',', 769, 8203, 9, 32, '!', lre, rle, pdf, lro, rlo, lri, rli, fsi, pdi, '(', ')'}
	allStrings(kinds, 2, check)
	allStrings([]int64{97, 1488, 49, 769, ' ', '(', ')'}, 4, check)
	r := rand.New(rand.NewSource(12))
	for range 1500 {
		check(randomText(r, kinds, r.Intn(30)))
		check(randomText(r, append([]int64{'(', ')', '[', ']', 97, 1488, 769, 769}, kinds...), r.Intn(60)))
	}
	for range 5 {
		check(randomText(r, kinds, impl.MaxText))
	}
}

// Promise 1 as far as chapter 7 goes: no argument is changed, what is answered is new memory, and it hangs on the arguments alone.
func TestPartsShareNothing(t *testing.T) {
	for _, letters := range []string{"", "L", "_", "()", "(L)", "R(^L)^_R", "L([R]^)_[E]", "))((", strings.Repeat("(", 64), strings.Repeat("(L^)_R", 100)} {
		checkPartSharesNothing(t, partOf(letters, 1, toL, toR))
		checkPartSharesNothing(t, partOf(letters, 0, toR, toR))
		checkPartSharesNothing(t, partOf(letters, 127, toR, toR))
	}
	checkPartSharesNothing(t, impl.Part{Text: []int64{'(', 97, ')'}, Firsts: []int64{13, 0}, Now: []int64{13, 0, 13}})
	checkPartSharesNothing(t, impl.Part{Text: []int64{'(', 97, ')'}, Firsts: []int64{13, 0, 13}, Now: []int64{13, 0, 23}})
}

func roomyPart(p impl.Part) impl.Part {
	p.Text, p.Firsts, p.Now = roomy(p.Text...), roomy(p.Firsts...), roomy(p.Now...)
	return p
}

// memoryOf is all that an argument's lists have, also behind their ends.
func memoryOf(p impl.Part) [][]int64 {
	return [][]int64{p.Text[:cap(p.Text)], p.Firsts[:cap(p.Firsts)], p.Now[:cap(p.Now)]}
}

func checkPartSharesNothing(t *testing.T, plain impl.Part) {
	t.Helper()
	asked := roomyPart(plain)
	pairs, pairsAgain := impl.PairsOf(asked), impl.PairsOf(asked)
	if !reflect.DeepEqual(pairs, pairsAgain) || impl.PartFault(asked) != pairs.Code {
		t.Error("pairs: two answers", plain)
	}
	scribble(pairsAgain.Pairs, impl.Pair{Open: 40, Close: 41})
	if !reflect.DeepEqual(memoryOf(asked), memoryOf(roomyPart(plain))) {
		t.Error("pairs: changed", plain)
	}
	for _, f := range partFuncs() {
		p := roomyPart(plain)
		first, again := f.ask(p), f.ask(p)
		if !reflect.DeepEqual(first, again) || first.Code != pairs.Code {
			t.Error(f.name, "two answers", plain)
		}
		scribble(again.Classes, 40)
		if !reflect.DeepEqual(memoryOf(p), memoryOf(roomyPart(plain))) {
			t.Error(f.name, "changed", plain)
		}
		for _, list := range memoryOf(p) {
			scribble(list, 7)
		}
		if last := f.ask(plain); last.Code != first.Code || !slices.Equal(last.Classes, first.Classes) {
			t.Error(f.name, "shared", plain)
		}
	}
}

// The lists of a part may be one and the same list.
func TestPartOfOneList(t *testing.T) {
	list := roomy[int64](13, 0, 12, 1, 13, 8)
	before := slices.Clone(list[:cap(list)])
	p := impl.Part{Text: list, Firsts: list, Now: list, Level: 1}
	for _, f := range partFuncs() {
		if got := f.ask(p); got.Code != impl.OK || lettersOf(got.Classes) != f.oracle(p) {
			t.Error(f.name, got)
		}
	}
	if !slices.Equal(list[:cap(list)], before) {
		t.Error("changed", list)
	}
}
