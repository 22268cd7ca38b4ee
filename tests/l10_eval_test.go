package tests

import (
	"fmt"
	"math"
	"math/big"
	"math/rand"
	"slices"
	"strings"
	"testing"

	"loop.example/g00469/impl"
)

func plus(a, b impl.Term) impl.Term { return structTerm("+", a, b) }

func minus(a, b impl.Term) impl.Term { return structTerm("-", a, b) }

func times(a, b impl.Term) impl.Term { return structTerm("*", a, b) }

func parts(a, b impl.Term) impl.Term { return structTerm("//", a, b) }

func opposite(a impl.Term) impl.Term { return structTerm("-", a) }

// twoNames are the operations of two.
func twoNames() []string { return []string{"+", "-", "*", "//"} }

// isOperationByRule tells whether it is one of the document's operations.
func isOperationByRule(t impl.Term) bool {
	return isOf(t, "-", 1) || slices.ContainsFunc(twoNames(), func(name string) bool { return isOf(t, name, 2) })
}

// evalByRule is the document's rule once more, with numbers that have no end; it tells the first code that is met.
func evalByRule(list []impl.Term, t impl.Term, deep int) (*big.Int, int) {
	t, _ = walkByRule(list, t, 5000)
	if t.Kind == impl.TmVar {
		return nil, impl.ErInst
	}
	if t.Kind != impl.TmInt && !isOperationByRule(t) || deep > impl.MaxDeep {
		return nil, impl.ErType
	}
	n := big.NewInt(int64(t.Num))
	if t.Kind == impl.TmStruct {
		var of []*big.Int
		for _, k := range t.Kids {
			kid, code := evalByRule(list, k, deep+1)
			if code != 0 {
				return nil, code
			}
			of = append(of, kid)
		}
		if t.Name == "//" && of[1].Sign() == 0 {
			return nil, impl.ErZero
		}
		n = operatedByRule(t.Name, of)
	}
	if n.CmpAbs(big.NewInt(impl.MaxInt)) > 0 {
		return nil, impl.ErRange
	}
	return n, 0
}

func operatedByRule(name string, of []*big.Int) *big.Int {
	n := new(big.Int)
	switch {
	case len(of) == 1:
		return n.Neg(of[0])
	case name == "+":
		return n.Add(of[0], of[1])
	case name == "-":
		return n.Sub(of[0], of[1])
	case name == "*":
		return n.Mul(of[0], of[1])
	}
	return n.Quo(of[0], of[1])
}

func wantEval(t *testing.T, b impl.Binds, term impl.Term, want int) {
	t.Helper()
	if n, code := impl.Eval(b, term); n != want || code != 0 {
		t.Errorf("Eval(%s, %s) = %d, %d; want %d, 0", shownBinds(b), shownTo(term, 6), n, code, want)
	}
}

func wantNoEval(t *testing.T, b impl.Binds, want int, terms ...impl.Term) {
	t.Helper()
	for _, term := range terms {
		if n, code := impl.Eval(b, term); n != 0 || code != want {
			t.Errorf("Eval(%s, %s) = %d, %d; want 0, %d", shownBinds(b), shownTo(term, 6), n, code, want)
		}
	}
}

// wantEvalByRule holds Eval against the rule, and tells the code.
func wantEvalByRule(t *testing.T, b impl.Binds, term impl.Term) int {
	t.Helper()
	want, wantCode := evalByRule(b.List, term, 1)
	if wantCode != 0 {
		want = new(big.Int)
	}
	n, code := impl.Eval(b, term)
	if code != wantCode || want.Cmp(big.NewInt(int64(n))) != 0 {
		t.Fatalf("Eval(%s, %s) = %d, %d; want %s, %d", shownBinds(b), shownTo(term, 8), n, code, want, wantCode)
	}
	return code
}

// wantReckoned reads the text and reckons it, where no TmVar stands for anything.
func wantReckoned(t *testing.T, text string, want int) {
	t.Helper()
	wantEval(t, impl.Binds{}, readOne(t, text), want)
}

func wantUnreckoned(t *testing.T, want int, texts ...string) {
	t.Helper()
	for _, text := range texts {
		wantNoEval(t, impl.Binds{}, want, readOne(t, text))
	}
}

func TestEvalCodesAreTheDocuments(t *testing.T) {
	if impl.ErInst != 1 || impl.ErType != 2 || impl.ErRange != 3 || impl.ErZero != 4 {
		t.Error("a code is another one")
	}
}

func TestEvalOfWhatIsRead(t *testing.T) {
	wantReckoned(t, "7", 7)
	wantReckoned(t, "-7", -7)
	wantReckoned(t, "- 7", -7)
	wantReckoned(t, "- (-7)", 7)
	wantReckoned(t, "- - - 7", -7)
	wantReckoned(t, "1 + 2", 3)
	wantReckoned(t, "1 - 2", -1)
	wantReckoned(t, "3 * -4", -12)
	wantReckoned(t, "7 // 2", 3)
	wantReckoned(t, "1 + 2 * 3", 7)
	wantReckoned(t, "(1 + 2) * 3", 9)
	wantReckoned(t, "10 - 3 - 2", 5)
	wantReckoned(t, "10 - (3 - 2)", 9)
	wantReckoned(t, "100 // 7 // 2", 7)
	wantReckoned(t, "100 // (7 // 2)", 33)
	wantReckoned(t, "7 // -2 + 3 * 4", 9)
	wantReckoned(t, "2 * 3 // 4 * 5", 5)
	wantReckoned(t, "- 2 * 3 - - 4", -2)
	wantReckoned(t, "+(1, 2)", 3)
	wantReckoned(t, "//(-(9), 2)", -4)
	wantReckoned(t, "999999999", impl.MaxInt)
	wantReckoned(t, "-999999999", -impl.MaxInt)
	wantUnreckoned(t, impl.ErInst, "X", "1 + X", "X // 0", "- X", "X + a")
	wantUnreckoned(t, impl.ErType, "a", "[]", "[1]", "1 + a", "a // 0", "f(X)", "1 = 1", "2 is 2", "1 < 2", "+(1)", "*(1, 2, 3)", "(+)", "(//)", "a + X", "'1'")
	wantUnreckoned(t, impl.ErRange, "999999999 + 1", "-999999999 - 1", "99999 * 99999", "- (999999999 + 1)", "(999999999 + 1) // 0")
	wantUnreckoned(t, impl.ErZero, "1 // 0", "0 // 0", "1 // (2 - 2)", "1 // 0 + X", "1 // 0 // a", "1 // 0 + 999999999 * 2")
}

func TestEvalOfNumbers(t *testing.T) {
	for _, n := range []int{0, 1, -1, 2, -2, 10, -10, 99999, 100000, 1 << 29, -1 << 29, impl.MaxInt - 1, 1 - impl.MaxInt, impl.MaxInt, -impl.MaxInt} {
		wantEval(t, impl.Binds{}, intTerm(n), n)
		wantEval(t, bindsOf(3, bound{0, atomTerm("a")}), intTerm(n), n)
		wantEval(t, impl.Binds{}, opposite(intTerm(n)), -n)
		wantEval(t, impl.Binds{}, opposite(opposite(intTerm(n))), n)
	}
}

// fewNumbers are as the limits, their halves and their roots are, and as 0 is.
func fewNumbers() []int {
	list := []int{0, 1, 2, 3, 4, 5, 7, 9, 10, 31622, 31623, 499999999, 500000000, 333333333, 999999998, impl.MaxInt}
	for _, n := range slices.Clone(list) {
		list = append(list, -n)
	}
	return list
}

func TestEvalOfEachOperationOfTwo(t *testing.T) {
	var met [5]int
	for _, a := range fewNumbers() {
		for _, b := range fewNumbers() {
			for _, name := range twoNames() {
				met[wantEvalByRule(t, impl.Binds{}, structTerm(name, intTerm(a), intTerm(b)))]++
			}
			wantEvalByRule(t, impl.Binds{}, opposite(minus(intTerm(a), intTerm(b))))
		}
	}
	if met[0] < 1000 || met[impl.ErRange] < 300 || met[impl.ErZero] != 2*len(fewNumbers()) {
		t.Errorf("of each code: %v", met)
	}
}

func TestEvalPartsTowardNought(t *testing.T) {
	for _, c := range [][3]int{
		{7, 2, 3}, {-7, 2, -3}, {7, -2, -3}, {-7, -2, 3}, {6, 2, 3}, {-6, 2, -3}, {6, -2, -3}, {-6, -2, 3},
		{1, 2, 0}, {-1, 2, 0}, {1, -2, 0}, {-1, -2, 0}, {0, 5, 0}, {0, -5, 0}, {5, 5, 1}, {-5, 5, -1}, {5, -5, -1}, {-5, -5, 1},
		{impl.MaxInt, 1, impl.MaxInt}, {impl.MaxInt, -1, -impl.MaxInt}, {-impl.MaxInt, 1, -impl.MaxInt}, {-impl.MaxInt, -1, impl.MaxInt},
		{impl.MaxInt, 2, 499999999}, {-impl.MaxInt, 2, -499999999}, {impl.MaxInt, impl.MaxInt, 1}, {impl.MaxInt, -impl.MaxInt, -1}, {impl.MaxInt - 1, impl.MaxInt, 0}, {1 - impl.MaxInt, impl.MaxInt, 0},
	} {
		wantEval(t, impl.Binds{}, parts(intTerm(c[0]), intTerm(c[1])), c[2])
	}
	// What is left over has the sign of what is parted, and is less than what it is parted by.
	for a := -40; a <= 40; a++ {
		for b := -9; b <= 9; b++ {
			n, code := impl.Eval(impl.Binds{}, parts(intTerm(a), intTerm(b)))
			over := a - n*b
			if b == 0 && (n != 0 || code != impl.ErZero) || b != 0 && (code != 0 || max(over, -over) >= max(b, -b) || over*a < 0) {
				t.Errorf("%d // %d is %d, %d", a, b, n, code)
			}
		}
	}
}

// wholesOf are those of which each of one list, and each pair of both, is a part.
func wholesOf(list, others []impl.Term) []impl.Term {
	var all []impl.Term
	for _, a := range list {
		all = append(all, opposite(a))
		for _, b := range others {
			for _, name := range twoNames() {
				all = append(all, structTerm(name, a, b), structTerm(name, b, a))
			}
		}
	}
	return all
}

// Each operation within each other one, on the left and on the right, with all that may go wrong in them.
func TestEvalOfEachOperationWithinEachOther(t *testing.T) {
	leaves := []impl.Term{intTerm(0), intTerm(-7), intTerm(3), intTerm(impl.MaxInt), varTerm(0), varTerm(1), atomTerm("a")}
	b := bindsOf(2, bound{1, minus(intTerm(2), intTerm(2))})
	once := wholesOf(leaves, leaves)
	twice := wholesOf(once, leaves)
	some := wholesOf([]impl.Term{intTerm(5), intTerm(-2)}, []impl.Term{intTerm(-2), varTerm(1)})
	var met [5]int
	for _, term := range slices.Concat(leaves, once, twice, wholesOf(some, some)) {
		met[wantEvalByRule(t, b, term)]++
	}
	for code, many := range met {
		if many < 700 {
			t.Errorf("only %d of code %d", many, code)
		}
	}
}

func TestEvalOfOtherNumbersOfKids(t *testing.T) {
	one := intTerm(1)
	for _, name := range []string{"+", "-", "*", "//", "/", "+-", "**", "mod", "///", "is", "=:=", "<", "=", ".", ",", "f", "1"} {
		for many := range 7 {
			term := structTerm(name, slices.Repeat([]impl.Term{one}, many)...)
			if isOperationByRule(term) {
				wantEvalByRule(t, impl.Binds{}, term)
				continue
			}
			wantNoEval(t, impl.Binds{}, impl.ErType, term, plus(term, one), plus(one, term), opposite(term), parts(term, intTerm(0)))
		}
		wantNoEval(t, impl.Binds{}, impl.ErType, atomTerm(name), opposite(atomTerm(name)), times(intTerm(0), atomTerm(name)), parts(atomTerm(name), varTerm(0)))
	}
	wantEval(t, impl.Binds{}, opposite(one), -1)
	wantNoEval(t, impl.Binds{}, impl.ErType, structTerm("+", one), structTerm("*", one), structTerm("//", one), structTerm("-", one, one, one), structTerm("-"))
}

// What is no operation is not looked into, whatever stands in it.
func TestEvalLooksIntoOperationsAlone(t *testing.T) {
	x, zero, great := varTerm(0), parts(intTerm(1), intTerm(0)), plus(intTerm(impl.MaxInt), intTerm(1))
	for _, kid := range []impl.Term{x, zero, great, intTerm(1)} {
		wantNoEval(t, impl.Binds{}, impl.ErType, structTerm("f", kid), structTerm("+", kid), structTerm("-", kid, kid, kid), structTerm("f", kid, kid), listTerm(kid), sameAs(kid, kid))
	}
	wantNoEval(t, bindsOf(2, bound{1, structTerm("f", x)}), impl.ErType, varTerm(1), opposite(varTerm(1)), plus(varTerm(1), x))
}

func TestEvalOfWhatNamesStandFor(t *testing.T) {
	b := bindsOf(9,
		bound{0, intTerm(5)},
		bound{1, varTerm(0)},
		bound{2, varTerm(1)},
		bound{3, plus(varTerm(0), varTerm(2))},
		bound{4, times(varTerm(3), varTerm(3))},
		bound{5, intTerm(0)},
		bound{6, atomTerm("a")},
		bound{7, varTerm(8)})
	for n, want := range []int{5, 5, 5, 10, 100, 0} {
		wantEval(t, b, varTerm(n), want)
		wantEval(t, b, opposite(varTerm(n)), -want)
		wantEval(t, b, minus(intTerm(1000), varTerm(n)), 1000-want)
		wantEval(t, b, minus(varTerm(n), intTerm(1000)), want-1000)
		wantEval(t, b, times(plus(varTerm(n), intTerm(1)), minus(varTerm(n), intTerm(1))), want*want-1)
		wantEval(t, b, parts(parts(intTerm(0), intTerm(3)), plus(intTerm(1), varTerm(n))), 0)
	}
	wantNoEval(t, b, impl.ErType, varTerm(6), plus(varTerm(0), varTerm(6)), plus(varTerm(6), varTerm(7)), parts(varTerm(6), varTerm(5)))
	wantNoEval(t, b, impl.ErInst, varTerm(7), varTerm(8), plus(varTerm(0), varTerm(7)), plus(varTerm(8), varTerm(6)), parts(varTerm(7), varTerm(5)))
	wantNoEval(t, b, impl.ErZero, parts(varTerm(4), varTerm(5)), plus(parts(varTerm(0), varTerm(5)), varTerm(8)))
	// Without the list they stand for nothing.
	for n := range 9 {
		wantNoEval(t, impl.Binds{}, impl.ErInst, varTerm(n), plus(intTerm(1), varTerm(n)))
	}
}

func TestEvalOfNamesBeyondTheList(t *testing.T) {
	b := bindsOf(2, bound{0, intTerm(1)}, bound{1, varTerm(2)})
	for _, n := range []int{1, 2, 3, 5000, 99999, 100000, math.MaxInt, -1, -2, math.MinInt} {
		wantNoEval(t, b, impl.ErInst, varTerm(n), plus(varTerm(0), varTerm(n)), parts(varTerm(n), intTerm(0)))
	}
	wantNoEval(t, bindsOf(1, bound{0, varTerm(-1)}), impl.ErInst, varTerm(0), opposite(varTerm(0)))
}

func TestEvalTellsNoughtFromNoNumber(t *testing.T) {
	x := varTerm(0)
	for _, term := range []impl.Term{
		intTerm(0), opposite(intTerm(0)), plus(intTerm(3), intTerm(-3)), minus(intTerm(3), intTerm(3)), times(intTerm(0), intTerm(9)),
		times(intTerm(9), intTerm(0)), parts(intTerm(0), intTerm(9)), parts(intTerm(1), intTerm(2)), parts(intTerm(-1), intTerm(2)), minus(x, x), times(x, intTerm(0)),
	} {
		wantEval(t, bindsOf(1, bound{0, intTerm(12)}), term, 0)
	}
	wantNoEval(t, impl.Binds{}, impl.ErInst, minus(x, x), times(x, intTerm(0)), times(intTerm(0), x), parts(intTerm(0), x))
	a, great := atomTerm("a"), plus(intTerm(impl.MaxInt), intTerm(1))
	wantNoEval(t, impl.Binds{}, impl.ErType, minus(a, a), times(a, intTerm(0)), times(intTerm(0), a))
	wantNoEval(t, impl.Binds{}, impl.ErRange, minus(great, great), times(great, intTerm(0)), times(intTerm(0), great))
	wantNoEval(t, impl.Binds{}, impl.ErZero, parts(intTerm(0), intTerm(0)), times(intTerm(0), parts(intTerm(0), intTerm(0))))
}

// faultyTerms are wrong by each code, each in some ways.
func faultyTerms() map[int][]impl.Term {
	one, greatest := intTerm(1), intTerm(impl.MaxInt)
	return map[int][]impl.Term{
		impl.ErInst:  {varTerm(0), varTerm(-1), opposite(varTerm(7))},
		impl.ErType:  {atomTerm("a"), structTerm("f", varTerm(0)), structTerm("+", one), {Kind: 6}},
		impl.ErRange: {intTerm(impl.MaxInt + 1), plus(greatest, one), times(greatest, greatest), opposite(intTerm(math.MinInt))},
		impl.ErZero:  {parts(one, intTerm(0)), parts(intTerm(0), minus(one, one))},
	}
}

func TestEvalTellsTheFirstFault(t *testing.T) {
	one := intTerm(1)
	for code, list := range faultyTerms() {
		for _, first := range list {
			wantNoEval(t, impl.Binds{}, code, first, opposite(first), opposite(opposite(first)), plus(one, first), plus(first, one), times(intTerm(0), first), parts(first, one), parts(one, first))
			// A part is met ahead of the whole.
			wantNoEval(t, impl.Binds{}, code, parts(first, intTerm(0)), plus(first, intTerm(math.MaxInt)), structTerm("+", times(first, one), one))
			for _, others := range faultyTerms() {
				for _, later := range others {
					wantNoEval(t, impl.Binds{}, code, plus(first, later), minus(first, later), times(first, later), parts(first, later))
					wantNoEval(t, impl.Binds{}, code, plus(opposite(first), later), times(one, parts(first, later)), plus(plus(one, first), later), plus(plus(one, first), opposite(later)))
					wantNoEval(t, impl.Binds{}, code, plus(times(one, one), minus(plus(one, first), later)), minus(minus(one, times(first, one)), later))
					wantNoEval(t, bindsOf(20, bound{10, first}, bound{11, later}), code, parts(varTerm(10), varTerm(11)), plus(one, plus(varTerm(10), varTerm(11))))
				}
			}
		}
	}
}

// The whole goes wrong only when its parts have not.
func TestEvalMeetsThePartsAheadOfTheWhole(t *testing.T) {
	greatest, one := intTerm(impl.MaxInt), intTerm(1)
	wantNoEval(t, impl.Binds{}, impl.ErRange, parts(plus(greatest, one), intTerm(0)), parts(times(greatest, intTerm(2)), minus(one, one)))
	wantNoEval(t, impl.Binds{}, impl.ErZero, parts(greatest, intTerm(0)), plus(parts(one, intTerm(0)), plus(greatest, one)), times(greatest, plus(greatest, parts(one, intTerm(0)))))
	wantNoEval(t, impl.Binds{}, impl.ErRange, times(plus(greatest, one), parts(one, intTerm(0))))
	wantNoEval(t, impl.Binds{}, impl.ErInst, parts(plus(one, varTerm(0)), intTerm(0)), times(greatest, plus(greatest, varTerm(0))))
	wantNoEval(t, impl.Binds{}, impl.ErType, parts(one, plus(intTerm(0), atomTerm("a"))), times(greatest, plus(greatest, atomTerm("a"))))
}

func TestEvalOfNamesThatStandForThemselves(t *testing.T) {
	wantNoEval(t, bindsOf(2, bound{1, varTerm(1)}), impl.ErInst, varTerm(1), plus(intTerm(1), varTerm(1)), parts(varTerm(1), atomTerm("a")))
	for _, round := range []int{1, 2, 3, 7, 4999, 5000, 5001} {
		b := ringBinds(round, 2)
		for _, n := range []int{0, round / 2, round - 1} {
			wantNoEval(t, b, impl.ErInst, varTerm(n), opposite(varTerm(n)), plus(intTerm(1), varTerm(n)), plus(varTerm(n), atomTerm("a")))
			wantNoEval(t, b, impl.ErType, plus(atomTerm("a"), varTerm(n)))
		}
	}
}

// An expression that has itself in it stands deeper in itself than may be; what is met ahead of that counts.
func TestEvalOfExpressionsInThemselves(t *testing.T) {
	x, one := varTerm(0), intTerm(1)
	for _, whole := range []impl.Term{opposite(x), plus(x, one), plus(one, x), times(x, x), minus(one, opposite(x)), parts(one, parts(x, one)), plus(x, varTerm(1)), plus(x, atomTerm("a")), plus(x, parts(one, intTerm(0)))} {
		b := bindsOf(2, bound{0, whole})
		wantNoEval(t, b, impl.ErType, x, opposite(x), plus(one, x), plus(x, one), whole, parts(x, varTerm(1)))
	}
	wantNoEval(t, bindsOf(2, bound{0, plus(varTerm(1), x)}), impl.ErInst, x, plus(x, one))
	wantNoEval(t, bindsOf(2, bound{0, plus(atomTerm("a"), x)}), impl.ErType, x)
	wantNoEval(t, bindsOf(2, bound{0, plus(parts(one, intTerm(0)), x)}), impl.ErZero, x, times(intTerm(0), x))
	wantNoEval(t, bindsOf(2, bound{0, plus(intTerm(impl.MaxInt+1), x)}), impl.ErRange, x)
	// Two that have each other in them, and a ring of TmVars in one that has it.
	wantNoEval(t, bindsOf(2, bound{0, plus(one, varTerm(1))}, bound{1, minus(x, one)}), impl.ErType, x, varTerm(1))
	wantNoEval(t, bindsOf(3, bound{0, varTerm(1)}, bound{1, varTerm(2)}, bound{2, times(x, varTerm(1))}), impl.ErType, x, varTerm(1), varTerm(2))
	// It is too deep ahead of too great, since the whole is reckoned last.
	wantNoEval(t, bindsOf(1, bound{0, times(x, intTerm(impl.MaxInt))}), impl.ErType, x)
}

func TestEvalWalksFiveThousandTimes(t *testing.T) {
	for _, last := range []impl.Term{intTerm(7), plus(intTerm(3), intTerm(4))} {
		for _, many := range []int{1, 2, 4999, 5000} {
			wantEval(t, rowBinds(many, last), varTerm(0), 7)
			wantEval(t, rowBinds(many, last), plus(varTerm(0), varTerm(many-1)), 14)
		}
		for _, many := range []int{5001, 5002, 9000} {
			wantNoEval(t, rowBinds(many, last), impl.ErInst, varTerm(0), plus(varTerm(many-1), varTerm(0)), plus(varTerm(0), atomTerm("a")))
			wantEval(t, rowBinds(many, last), varTerm(many-5000), 7)
		}
	}
}

func TestEvalOfNumbersAtTheLimits(t *testing.T) {
	greatest, least, one := intTerm(impl.MaxInt), intTerm(-impl.MaxInt), intTerm(1)
	for _, c := range []struct {
		term impl.Term
		want int
	}{
		{plus(intTerm(impl.MaxInt-1), one), impl.MaxInt}, {plus(intTerm(1-impl.MaxInt), intTerm(-1)), -impl.MaxInt}, {plus(greatest, least), 0}, {plus(greatest, intTerm(0)), impl.MaxInt},
		{minus(intTerm(impl.MaxInt-1), intTerm(-1)), impl.MaxInt}, {minus(intTerm(1-impl.MaxInt), one), -impl.MaxInt}, {minus(least, least), 0}, {minus(intTerm(0), least), impl.MaxInt}, {minus(intTerm(0), greatest), -impl.MaxInt},
		{times(greatest, one), impl.MaxInt}, {times(greatest, intTerm(-1)), -impl.MaxInt}, {times(least, intTerm(-1)), impl.MaxInt}, {times(intTerm(333333333), intTerm(3)), impl.MaxInt}, {times(intTerm(-333333333), intTerm(3)), -impl.MaxInt},
		{times(intTerm(31622), intTerm(31623)), 999982506}, {parts(least, intTerm(-1)), impl.MaxInt}, {parts(greatest, intTerm(-1)), -impl.MaxInt}, {opposite(greatest), -impl.MaxInt}, {opposite(least), impl.MaxInt},
	} {
		wantEval(t, impl.Binds{}, c.term, c.want)
		wantEval(t, impl.Binds{}, minus(c.term, c.term), 0)
	}
	wantNoEval(t, impl.Binds{}, impl.ErRange,
		plus(greatest, one), plus(one, greatest), plus(least, intTerm(-1)), plus(greatest, greatest), plus(least, least), plus(intTerm(500000000), intTerm(500000000)),
		minus(least, one), minus(greatest, intTerm(-1)), minus(greatest, least), minus(least, greatest), minus(intTerm(-1), greatest),
		times(intTerm(500000000), intTerm(2)), times(intTerm(-500000000), intTerm(2)), times(intTerm(500000000), intTerm(-2)), times(intTerm(31623), intTerm(31623)), times(intTerm(1000), intTerm(1000000)))
	wantNoEval(t, impl.Binds{}, impl.ErZero, parts(least, intTerm(0)), parts(greatest, intTerm(0)))
	// Some of these products would be within again, if they were wrapped round within 32 bits.
	wantNoEval(t, impl.Binds{}, impl.ErRange, times(greatest, greatest), times(least, least), times(greatest, least), times(least, greatest), times(intTerm(1<<16), intTerm(1<<16)), times(intTerm(1<<29), intTerm(16)), times(intTerm(1<<29), intTerm(1<<29)))
}

// A part that is too great makes the whole go wrong, even if that would be within again.
func TestEvalOfPartsPastTheLimits(t *testing.T) {
	greatest, least, one := intTerm(impl.MaxInt), intTerm(-impl.MaxInt), intTerm(1)
	for _, past := range []impl.Term{plus(greatest, one), minus(least, one), times(greatest, intTerm(2)), times(least, greatest), intTerm(impl.MaxInt + 1), intTerm(-impl.MaxInt - 1)} {
		wantNoEval(t, impl.Binds{}, impl.ErRange, past, opposite(past), minus(past, past), plus(past, opposite(past)), minus(past, one), plus(one, past), times(past, intTerm(0)), times(intTerm(0), past), parts(past, greatest), parts(one, past), parts(past, past))
	}
	wantEval(t, impl.Binds{}, plus(minus(greatest, one), one), impl.MaxInt)
	wantEval(t, impl.Binds{}, times(parts(greatest, intTerm(3)), intTerm(3)), impl.MaxInt)
	wantEval(t, impl.Binds{}, opposite(opposite(least)), -impl.MaxInt)
}

// The fields that are looked at are the Kind, the Num of a TmInt, and the Name and how many Kids of a TmStruct.
func TestEvalOfWhatIsNotRight(t *testing.T) {
	one, a := intTerm(1), atomTerm("a")
	for _, n := range []int{impl.MaxInt + 1, -impl.MaxInt - 1, 1 << 32, 1<<32 + 1, -1 << 32, 1 << 62, math.MaxInt, math.MinInt} {
		wantNoEval(t, impl.Binds{}, impl.ErRange, intTerm(n), opposite(intTerm(n)), plus(intTerm(n), intTerm(n)), minus(intTerm(n), intTerm(n)), parts(intTerm(n), intTerm(0)), times(one, intTerm(n)))
		wantNoEval(t, bindsOf(1, bound{0, intTerm(n)}), impl.ErRange, varTerm(0), opposite(varTerm(0)))
	}
	for _, kind := range []int{0, 5, -1, math.MaxInt, math.MinInt} {
		for _, odd := range []impl.Term{{Kind: kind}, {Kind: kind, Num: 1}, {Kind: kind, Name: "+", Kids: []impl.Term{one, one}}, {Kind: kind, Name: "-", Kids: []impl.Term{varTerm(0)}}} {
			wantNoEval(t, impl.Binds{}, impl.ErType, odd, opposite(odd), plus(one, odd), plus(odd, varTerm(0)), parts(odd, intTerm(0)))
		}
	}
	wantNoEval(t, impl.Binds{}, impl.ErType, impl.Term{Kind: impl.TmAtom, Name: "+", Kids: []impl.Term{one, one}}, impl.Term{Kind: impl.TmAtom, Name: "-", Kids: []impl.Term{one}}, impl.Term{Kind: impl.TmAtom, Name: "a", Num: 1}, structTerm("", one, one))
	wantNoEval(t, impl.Binds{}, impl.ErInst, impl.Term{Kind: impl.TmVar, Name: "X", Num: 3}, impl.Term{Kind: impl.TmVar, Name: "+", Kids: []impl.Term{one, one}})
	wantEval(t, impl.Binds{}, impl.Term{Kind: impl.TmInt, Num: 4, Name: "a"}, 4)
	wantEval(t, impl.Binds{}, impl.Term{Kind: impl.TmInt, Num: 4, Kids: []impl.Term{a}}, 4)
	wantEval(t, impl.Binds{}, impl.Term{Kind: impl.TmInt, Num: 4, Name: "-", Kids: []impl.Term{one}}, 4)
	wantEval(t, impl.Binds{}, impl.Term{Kind: impl.TmStruct, Name: "-", Num: 9, Kids: []impl.Term{one}}, -1)
	wantEval(t, bindsOf(2, bound{1, one}), impl.Term{Kind: impl.TmVar, Name: "X", Num: 1, Kids: []impl.Term{a}}, 1)
	// A Kind of 0 in the list is nothing, whatever else it has.
	wantNoEval(t, bindsOf(1, bound{0, impl.Term{Name: "-", Num: 7, Kids: []impl.Term{one}}}), impl.ErInst, varTerm(0))
}

func TestEvalOfAllTerms(t *testing.T) {
	b := bindsOf(3, bound{0, intTerm(3)}, bound{1, minus(varTerm(0), intTerm(4))})
	for _, term := range slices.Concat(rightTerms(), oddTerms(), deepOdds()) {
		for _, whole := range []impl.Term{term, opposite(term), plus(term, intTerm(1)), parts(intTerm(1), term), times(term, term)} {
			wantEvalByRule(t, impl.Binds{}, whole)
			wantEvalByRule(t, b, whole)
		}
	}
	for i, great := range greatTerms() {
		for _, whole := range []impl.Term{great, opposite(great), plus(great, varTerm(9))} {
			if n, code := impl.Eval(b, whole); n != 0 || code != impl.ErType {
				t.Errorf("Eval of great term %d = %d, %d", i, n, code)
			}
		}
		if n, code := impl.Eval(bindsOf(1, bound{0, great}), plus(intTerm(1), varTerm(0))); n != 0 || code != impl.ErType {
			t.Errorf("Eval of what stands for great term %d = %d, %d", i, n, code)
		}
	}
}

// deepened has so many operations around the innermost one.
func deepened(many int, innermost impl.Term, around func(impl.Term) impl.Term) impl.Term {
	for range many {
		innermost = around(innermost)
	}
	return innermost
}

func arounds() map[string]func(impl.Term) impl.Term {
	one := intTerm(1)
	return map[string]func(impl.Term) impl.Term{
		"-":        opposite,
		"left +":   func(t impl.Term) impl.Term { return plus(t, one) },
		"right +":  func(t impl.Term) impl.Term { return plus(one, t) },
		"left -":   func(t impl.Term) impl.Term { return minus(t, one) },
		"right -":  func(t impl.Term) impl.Term { return minus(one, t) },
		"left *":   func(t impl.Term) impl.Term { return times(t, one) },
		"right *":  func(t impl.Term) impl.Term { return times(one, t) },
		"left //":  func(t impl.Term) impl.Term { return parts(t, one) },
		"right //": func(t impl.Term) impl.Term { return parts(one, t) },
	}
}

func TestEvalAsDeepAsMayBe(t *testing.T) {
	const deepest = impl.MaxDeep - 1 // the innermost one stands below so many
	for what, around := range arounds() {
		for _, innermost := range []impl.Term{intTerm(1), opposite(intTerm(1)), plus(intTerm(-1), intTerm(2)), times(intTerm(1), intTerm(-1))} {
			within := deepest
			if innermost.Kind == impl.TmStruct {
				within--
			}
			term := deepened(within, innermost, around)
			if !impl.TermOk(term) || impl.TermOk(around(term)) {
				t.Fatalf("%s: the terms are not as deep as may be", what)
			}
			if code := wantEvalByRule(t, impl.Binds{}, term); code != 0 {
				t.Errorf("%s: code %d as deep as may be", what, code)
			}
			wantNoEval(t, impl.Binds{}, impl.ErType, around(term), around(around(term)), deepened(1000, innermost, around))
		}
		// Deeper than may be each one is of the wrong type, but a TmVar, unless a number stands ahead of it that is as deep.
		for _, odd := range []impl.Term{atomTerm("a"), structTerm("f", varTerm(0)), intTerm(impl.MaxInt + 1), parts(intTerm(1), intTerm(0)), plus(varTerm(0), varTerm(0))} {
			wantNoEval(t, impl.Binds{}, impl.ErType, deepened(deepest+1, odd, around), deepened(deepest+2, odd, around))
		}
		ahead := impl.ErInst
		if strings.HasPrefix(what, "right") {
			ahead = impl.ErType
		}
		wantNoEval(t, impl.Binds{}, impl.ErInst, deepened(deepest, varTerm(0), around))
		wantNoEval(t, impl.Binds{}, ahead, deepened(deepest+1, varTerm(0), around))
		wantNoEval(t, bindsOf(1, bound{0, intTerm(1)}), impl.ErType, deepened(deepest+1, varTerm(0), around))
		wantNoEval(t, impl.Binds{}, impl.ErRange, deepened(deepest, intTerm(impl.MaxInt+1), around))
		wantNoEval(t, impl.Binds{}, impl.ErZero, deepened(deepest-1, parts(intTerm(1), intTerm(0)), around))
	}
}

// What TmVars stand for is as deep as it is where they stand.
func TestEvalAsDeepByNames(t *testing.T) {
	const deepest = impl.MaxDeep - 1
	for what, around := range arounds() {
		for _, above := range []int{0, 1, 19, 20, deepest - 1, deepest} {
			below := deepened(deepest-above, intTerm(1), around)
			term := deepened(above, varTerm(2), around)
			b := bindsOf(3, bound{0, below}, bound{1, varTerm(0)}, bound{2, varTerm(1)})
			if code := wantEvalByRule(t, b, term); code != 0 {
				t.Errorf("%s: code %d as deep as may be, %d of it above a name", what, code, above)
			}
			wantNoEval(t, b, impl.ErType, around(term))
			b.List[0] = around(below)
			wantNoEval(t, b, impl.ErType, term)
		}
		// A row of names, each for one operation around the next one.
		for many, want := range map[int]int{deepest: 0, deepest + 1: impl.ErType, 4999: impl.ErType} {
			b := impl.BindsNew(many + 1)
			for i := range many {
				b.List[i] = around(varTerm(i + 1))
			}
			b.List[many] = intTerm(1)
			if code := wantEvalByRule(t, b, varTerm(0)); code != want {
				t.Errorf("%s: code %d of a row of %d names", what, code, many)
			}
			b.List[many] = impl.Term{}
			if code := wantEvalByRule(t, b, varTerm(0)); many == deepest && code != impl.ErInst {
				t.Errorf("%s: code %d of a row of %d names whose last one stands for nothing", what, code, many)
			}
		}
	}
}

// The same expression stands once as deep as may be and once deeper, in one term: how deep it stands is looked at in each place.
func TestEvalOfOneExpressionInPlacesOfUnlikeDepth(t *testing.T) {
	for _, around := range arounds() {
		for _, size := range []int{1, 2, 3, 10, 20} {
			b := bindsOf(1, bound{0, deepened(size-1, intTerm(1), around)})
			within := impl.MaxDeep - 1 - size // so many may stand above it, but for the whole
			for _, part := range []impl.Term{varTerm(0), b.List[0]} {
				deep, deeper := deepened(within, part, opposite), deepened(within+1, part, opposite)
				wantEvalByRule(t, b, plus(part, deep))
				wantEval(t, b, minus(deep, deep), 0)
				wantNoEval(t, b, impl.ErType, plus(part, deeper), plus(deeper, part), plus(part, plus(deep, part)), plus(plus(part, intTerm(1)), opposite(deep)))
				// What is met ahead of the deeper one counts.
				wantNoEval(t, b, impl.ErZero, plus(parts(part, intTerm(0)), deeper))
				wantNoEval(t, b, impl.ErInst, plus(part, plus(varTerm(5), deeper)))
				wantNoEval(t, b, impl.ErType, plus(part, plus(deeper, varTerm(5))))
			}
			// The same list of Kids, in two terms.
			shared := []impl.Term{b.List[0]}
			one, other := impl.Term{Kind: impl.TmStruct, Name: "-", Kids: shared}, impl.Term{Kind: impl.TmStruct, Name: "-", Kids: shared}
			wantEvalByRule(t, b, plus(one, deepened(within-1, other, opposite)))
			wantNoEval(t, b, impl.ErType, plus(one, deepened(within, other, opposite)))
		}
	}
}

// The same list of Kids may be that of unlike operations.
func TestEvalOfOneListInUnlikeOperations(t *testing.T) {
	kids := []impl.Term{intTerm(12), opposite(intTerm(5))}
	of := func(name string) impl.Term { return impl.Term{Kind: impl.TmStruct, Name: name, Kids: kids} }
	wantEval(t, impl.Binds{}, minus(of("+"), of("-")), 7-17)
	wantEval(t, impl.Binds{}, plus(of("*"), of("//")), -60-2)
	wantEval(t, impl.Binds{}, plus(of("-"), impl.Term{Kind: impl.TmStruct, Name: "-", Kids: kids[:1]}), 17-12)
	wantNoEval(t, impl.Binds{}, impl.ErType, plus(of("+"), of("f")))
}

func TestEvalMeetsDepthWhereItStands(t *testing.T) {
	deep := deepened(impl.MaxDeep, intTerm(1), opposite)
	for code, list := range faultyTerms() {
		for _, fault := range list {
			wantNoEval(t, impl.Binds{}, code, plus(fault, deep), plus(plus(intTerm(1), fault), deep), times(fault, times(deep, deep)))
			wantNoEval(t, impl.Binds{}, impl.ErType, plus(deep, fault), plus(plus(intTerm(1), deep), fault), parts(deep, intTerm(0)))
		}
	}
	// Of what is met deeper than may be, the parts are not: the whole stands ahead of them.
	for _, fault := range []impl.Term{varTerm(0), parts(intTerm(1), intTerm(0))} {
		wantNoEval(t, impl.Binds{}, impl.ErType, deepened(impl.MaxDeep, plus(fault, fault), opposite), deepened(impl.MaxDeep+20, fault, opposite))
	}
}

// These have more terms than can be gone through one by one, though they are not deep.
func TestEvalOfWhatStandsInManyPlaces(t *testing.T) {
	for _, name := range twoNames() {
		for _, n := range []int{0, 1, 2} {
			term := intTerm(n)
			b := impl.BindsNew(impl.MaxDeep + 1)
			b.List[0] = term
			code, want := 0, n
			for deep := 1; deep < impl.MaxDeep; deep++ {
				term = structTerm(name, term, term)
				b.List[deep] = structTerm(name, varTerm(deep-1), varTerm(deep-1))
				if code == 0 {
					number, fault := evalByRule(nil, structTerm(name, intTerm(want), intTerm(want)), 1)
					if code = fault; code == 0 {
						want = int(number.Int64())
					}
				}
				if code != 0 {
					wantNoEval(t, impl.Binds{}, code, term)
					wantNoEval(t, b, code, varTerm(deep))
					continue
				}
				wantEval(t, impl.Binds{}, term, want)
				wantEval(t, b, varTerm(deep), want)
			}
			if code == 0 {
				wantNoEval(t, impl.Binds{}, impl.ErType, structTerm(name, term, term), minus(intTerm(1), opposite(term)))
				wantNoEval(t, b, impl.ErType, opposite(varTerm(impl.MaxDeep-1)))
			}
		}
	}
	// A list of Kids that has itself in it.
	for _, name := range []string{"+", "-", "*", "//"} {
		kids := []impl.Term{intTerm(1), {Kind: impl.TmStruct, Name: name}}
		kids[1].Kids = kids
		wantNoEval(t, impl.Binds{}, impl.ErType, kids[1], plus(intTerm(1), kids[1]))
		kids[0] = kids[1]
		wantNoEval(t, impl.Binds{}, impl.ErType, kids[1])
	}
}

// A term may be too large to be right, and have a number all the same.
func TestEvalOfManyTerms(t *testing.T) {
	term := intTerm(1)
	for range 12 {
		term = plus(deepCopy(term), deepCopy(term))
	}
	wantEval(t, impl.Binds{}, term, 4096)
	wantEval(t, impl.Binds{}, minus(term, deepCopy(term)), 0)
	list := make([]impl.Term, 20000)
	for i := range list {
		list[i] = intTerm(i)
	}
	wantEval(t, impl.Binds{List: list}, plus(varTerm(19999), varTerm(1)), 20000)
}

// drawnNumber is near a limit, or small.
func drawnNumber(r *rand.Rand) int {
	near := []int{0, 0, 0, 1, -1, 31622, 499999999, impl.MaxInt, -impl.MaxInt}[r.Intn(9)]
	return near + r.Intn(7) - 3
}

// drawnSum is an expression drawn at random, with TmVars of numbers below many, and now and then something that is none.
func drawnSum(r *rand.Rand, many, deep int) impl.Term {
	switch k := r.Intn(40); {
	case k == 0:
		return []impl.Term{atomTerm("a"), structTerm("f", varTerm(0)), structTerm("+", intTerm(1)), {Kind: 6}, listTerm()}[r.Intn(5)]
	case k < 6 && many > 0:
		return varTerm(r.Intn(many))
	case k < 14 || deep <= 1:
		return intTerm(drawnNumber(r))
	case k < 19:
		return opposite(drawnSum(r, many, deep-1))
	}
	return structTerm(twoNames()[r.Intn(4)], drawnSum(r, many, deep-1), drawnSum(r, many, deep-1))
}

// drawnSums is a list whose numbers stand for expressions with the TmVars of the numbers behind them, or of any.
func drawnSums(r *rand.Rand, many int) impl.Binds {
	b := impl.Binds{List: make([]impl.Term, many)}
	for i := range b.List {
		switch k := r.Intn(10); {
		case k < 7 && i+1 < many:
			b.List[i] = drawnSum(r, 0, 2)
			if b.List[i].Kind == impl.TmStruct && len(b.List[i].Kids) > 0 {
				b.List[i].Kids[r.Intn(len(b.List[i].Kids))] = varTerm(i + 1 + r.Intn(many-i-1))
			}
		case k < 9:
			b.List[i] = intTerm(drawnNumber(r))
		case k == 9 && r.Intn(3) == 0:
			b.List[i] = drawnSum(r, many+1, 2)
		}
	}
	return b
}

func TestEvalIsTheDocumentsRule(t *testing.T) {
	r := rand.New(rand.NewSource(101))
	var met [5]int
	filled := 0
	for range 60000 {
		b := drawnSums(r, r.Intn(7))
		term := drawnSum(r, len(b.List), 1+r.Intn(6))
		code := wantEvalByRule(t, b, term)
		met[code]++
		// What is Filled has the same number, and goes wrong alike.
		if whole, ok := impl.Filled(b, term); ok {
			filled++
			n, _ := impl.Eval(b, term)
			if got, too := impl.Eval(impl.Binds{}, whole); got != n || too != code {
				t.Fatalf("Eval(%s, %s) = %d, %d; of what is Filled it is %d, %d", shownBinds(b), shownTo(term, 8), n, code, got, too)
			}
		}
	}
	for code, many := range met {
		if many < 1000 {
			t.Errorf("only %d of code %d are drawn", many, code)
		}
	}
	if filled < 30000 {
		t.Errorf("only %d can be filled", filled)
	}
}

// drawnDeep is one long way down through operations, with something beside each of them.
func drawnDeep(r *rand.Rand, many int) impl.Term {
	beside := func() impl.Term {
		if r.Intn(60) == 0 {
			return drawnSum(r, 3, 2)
		}
		return intTerm(r.Intn(5) - 2)
	}
	term := beside()
	for range many {
		switch name := twoNames()[r.Intn(4)]; r.Intn(5) {
		case 0, 1:
			term = structTerm(name, term, beside())
		case 2, 3:
			term = structTerm(name, beside(), term)
		default:
			term = opposite(term)
		}
		if n, code := evalByRule(nil, term, 1); code == 0 && n.CmpAbs(big.NewInt(1000)) > 0 {
			term = times(term, intTerm(0))
		}
	}
	return term
}

func TestEvalOfDeepTermsIsTheDocumentsRule(t *testing.T) {
	r := rand.New(rand.NewSource(102))
	var met [5]int
	for range 4000 {
		b := bindsOf(3, bound{0, intTerm(2)}, bound{1, drawnDeep(r, r.Intn(10))})
		met[wantEvalByRule(t, b, drawnDeep(r, 25+r.Intn(18)))]++
	}
	for code, least := range []int{300, 100, 300, 0, 300} {
		if met[code] < least {
			t.Errorf("only %d of code %d are drawn", met[code], code)
		}
	}
}

// What is written of an expression, and read again, has the same number.
func TestEvalOfWhatIsReadAgain(t *testing.T) {
	r := rand.New(rand.NewSource(103))
	for range 5000 {
		term := drawnSum(r, 0, 5)
		if !impl.TermOk(term) {
			continue
		}
		again := readOne(t, impl.WriteTerm(term))
		n, code := impl.Eval(impl.Binds{}, term)
		if got, too := impl.Eval(impl.Binds{}, again); got != n || too != code {
			t.Fatalf("Eval(%s) = %d, %d; read again it is %d, %d", shownTo(term, 8), n, code, got, too)
		}
	}
}

func TestEvalIsNotWrittenInto(t *testing.T) {
	r := rand.New(rand.NewSource(104))
	for range 5000 {
		b := drawnSums(r, 1+r.Intn(6))
		term := drawnSum(r, len(b.List)+1, 4)
		asked, sum := spareBinds(b), withSpare(term)
		impl.Eval(asked, sum)
		if !equalBinds(asked, b) || !equalTerms(sum, term) {
			t.Fatalf("%s or %s was written into", shownBinds(b), shown(term))
		}
		if !spareUntouched(impl.Term{Kids: asked.List}) || !spareUntouched(sum) {
			t.Fatalf("the room behind %s or %s was written into", shownBinds(b), shown(term))
		}
	}
	for _, term := range slices.Concat(rightTerms(), oddTerms(), deepOdds()) {
		asked := withSpare(opposite(term))
		impl.Eval(spareBinds(bindsOf(1, bound{0, term})), asked)
		if !equalTerms(asked, opposite(term)) || !spareUntouched(asked) {
			t.Fatalf("%s was written into", shown(term))
		}
	}
}

// No call keeps anything for a later one, not even of a list that is written into between them.
func TestEvalHangsOnWhatIsAskedAlone(t *testing.T) {
	r := rand.New(rand.NewSource(105))
	var lists []impl.Binds
	var terms []impl.Term
	var told [][2]int
	for range 300 {
		b := drawnSums(r, 5)
		term := drawnSum(r, 5, 5)
		n, code := impl.Eval(b, term)
		lists, terms, told = append(lists, b), append(terms, term), append(told, [2]int{n, code})
	}
	for range 2000 {
		i := r.Intn(len(terms))
		if n, code := impl.Eval(lists[i], terms[i]); told[i] != [2]int{n, code} {
			t.Fatalf("told %v, then %d, %d", told[i], n, code)
		}
	}
	b := bindsOf(1, bound{0, plus(intTerm(1), intTerm(2))})
	for n := range 20 {
		b.List[0].Kids[1].Num = n
		wantEval(t, b, times(varTerm(0), varTerm(0)), (n+1)*(n+1))
	}
}

func TestEvalTakesNilForEmpty(t *testing.T) {
	one := impl.Term{Kind: impl.TmInt, Num: 1, Kids: []impl.Term{}}
	wantEval(t, impl.Binds{List: []impl.Term{}}, plus(one, one), 2)
	wantNoEval(t, impl.Binds{List: []impl.Term{}}, impl.ErInst, impl.Term{Kind: impl.TmVar, Kids: []impl.Term{}})
	wantNoEval(t, impl.Binds{}, impl.ErType, impl.Term{Kind: impl.TmAtom, Name: "-", Kids: []impl.Term{}}, impl.Term{Kind: impl.TmStruct, Name: "-", Kids: []impl.Term{}}, impl.Term{Kind: impl.TmStruct, Name: "-"})
}

func wantErrorTerm(t *testing.T, code int, pred, name, told string) {
	t.Helper()
	want := structTerm("error", atomTerm(name), atomTerm(told))
	if got := impl.ErrorTerm(code, pred); !equalTerms(got, want) {
		t.Errorf("ErrorTerm(%d, %q) = %s; want %s", code, pred, shown(got), shown(want))
	}
}

func TestErrorTermOfEachCode(t *testing.T) {
	names := map[int]string{impl.ErInst: "inst", impl.ErType: "type", impl.ErRange: "range", impl.ErZero: "zero"}
	for _, pred := range []string{"is/2", "call/1", "</2", "=:=/2", "p", "X", "none", "unknown", "[]", "", "a b"} {
		told := pred
		if pred == "" || pred == "a b" {
			told = "none"
		}
		for code, name := range names {
			wantErrorTerm(t, code, pred, name, told)
		}
		for _, code := range []int{0, -1, -2, -4, 5, 6, 8, 100, 1 << 32, 1<<32 + 1, 1<<32 + 4, -1 << 32, math.MaxInt, math.MinInt, math.MinInt + 1} {
			wantErrorTerm(t, code, pred, "unknown", told)
		}
	}
}

func TestErrorTermOfNamesThatMayBe(t *testing.T) {
	for _, pred := range []string{"a", "!", "~", "A", "_", "0", "is/2", "a,b", "f(", "[]", strings.Repeat("a", 19), strings.Repeat("a", 20), strings.Repeat("~", 20), "none"} {
		wantErrorTerm(t, impl.ErType, pred, "type", pred)
	}
	for _, pred := range []string{"", " ", "a b", " a", "a ", "'", "\"", "a'", "'a'", "\"a", "a\n", "\t", "\x00", "a\x7f", "\xc3\xa4", "a\xff", strings.Repeat("a", 21), strings.Repeat("a", 40), strings.Repeat("a", 100000), strings.Repeat(" ", 20)} {
		wantErrorTerm(t, impl.ErType, pred, "type", "none")
	}
	for b := range 256 {
		one := string([]byte{byte(b)})
		for _, pred := range []string{one, "a" + one, one + "a", strings.Repeat("a", 19) + one} {
			told := "none"
			if b >= 33 && b <= 126 && b != '\'' && b != '"' {
				told = pred
			}
			wantErrorTerm(t, impl.ErZero, pred, "zero", told)
			wantErrorTerm(t, 7, pred, "unknown", told)
			wantErrorTerm(t, impl.ErInst, pred+strings.Repeat("a", 20), "inst", "none")
		}
	}
}

func TestErrorTermIsRightAndIsReadAgain(t *testing.T) {
	for code := -2; code < 8; code++ {
		for _, pred := range []string{"is/2", "</2", "p", "", "a'", strings.Repeat("x", 20), ",", "[]", "."} {
			term := impl.ErrorTerm(code, pred)
			if !impl.TermOk(term) {
				t.Errorf("ErrorTerm(%d, %q) = %s is not right", code, pred, shown(term))
			}
			wantReadAgain(t, term)
		}
	}
	for _, c := range []struct {
		code       int
		pred, want string
	}{{impl.ErZero, "is/2", "error(zero,'is/2')"}, {impl.ErInst, "call/1", "error(inst,'call/1')"}, {0, "p", "error(unknown,p)"}, {impl.ErRange, "", "error(range,none)"}, {impl.ErType, "A", "error(type,'A')"}} {
		if got := impl.WriteTerm(impl.ErrorTerm(c.code, c.pred)); got != c.want {
			t.Errorf("ErrorTerm(%d, %q) is written %q; want %q", c.code, c.pred, got, c.want)
		}
	}
}

func TestErrorTermAnswersNewMemory(t *testing.T) {
	pred := strings.Repeat("p", 12)
	for _, code := range []int{impl.ErInst, impl.ErType, impl.ErRange, impl.ErZero, 0} {
		for _, asked := range []string{pred, ""} {
			one, other := impl.ErrorTerm(code, asked), impl.ErrorTerm(code, asked)
			wantNoListTwice(t, fmt.Sprintf("two answers to %d, %q", code, asked), one, other)
			if shares(pred, one.Kids[1].Name) {
				t.Errorf("the Name of ErrorTerm(%d, %q) lies in what was asked", code, asked)
			}
			answer := deepCopy(one)
			spoilTerm(other)
			impl.ErrorTerm(code+1, "q")
			if !equalTerms(one, answer) || !equalTerms(impl.ErrorTerm(code, asked), answer) {
				t.Errorf("ErrorTerm(%d, %q) changes with another answer", code, asked)
			}
		}
	}
}
