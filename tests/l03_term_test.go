package tests

import (
	"fmt"
	"math"
	"slices"
	"strings"
	"testing"

	"loop.example/g00469/impl"
)

func varTerm(n int) impl.Term { return impl.Term{Kind: impl.TmVar, Num: n} }

func intTerm(n int) impl.Term { return impl.Term{Kind: impl.TmInt, Num: n} }

func atomTerm(name string) impl.Term { return impl.Term{Kind: impl.TmAtom, Name: name} }

func structTerm(name string, kids ...impl.Term) impl.Term {
	return impl.Term{Kind: impl.TmStruct, Name: name, Kids: kids}
}

// chainTerm has so many terms in one another, the innermost one within.
func chainTerm(deep int, innermost impl.Term) impl.Term {
	t := innermost
	for range deep - 1 {
		t = structTerm("f", t)
	}
	return t
}

// wideTerm has so many terms, as few as may be in one another, the last one at its end.
func wideTerm(size int, last impl.Term) impl.Term {
	if size == 1 {
		return last
	}
	left := size - 1
	kids := make([]impl.Term, min(5, left))
	for i := range kids {
		share := left / (len(kids) - i)
		kids[i] = wideTerm(share, atomTerm("a"))
		if i == len(kids)-1 {
			kids[i] = wideTerm(share, last)
		}
		left -= share
	}
	return structTerm("s", kids...)
}

// countTerms counts without an end, so of small terms only.
func countTerms(t impl.Term) int {
	n := 1
	for _, k := range t.Kids {
		n += countTerms(k)
	}
	return n
}

// doubledTerm stands twice in itself, so many times over: few lists, and more terms than can be gone through.
func doubledTerm(times int, innermost impl.Term) impl.Term {
	t := innermost
	for range times {
		t = structTerm("f", t, t)
	}
	return t
}

// endlessTerm has its own list in itself, behind one more term.
func endlessTerm(first impl.Term) impl.Term {
	kids := []impl.Term{first, {}}
	kids[1] = structTerm("f", kids...)
	kids[1].Kids = kids
	return structTerm("f", kids...)
}

// equalTerms goes through both field by field, so of small terms only.
func equalTerms(a, b impl.Term) bool {
	return a.Kind == b.Kind && a.Name == b.Name && a.Num == b.Num && slices.EqualFunc(a.Kids, b.Kids, equalTerms)
}

func deepCopy(t impl.Term) impl.Term {
	var kids []impl.Term
	for _, k := range t.Kids {
		kids = append(kids, deepCopy(k))
	}
	t.Kids = kids
	return t
}

// shown is a term in short, since a term may have no end.
func shown(t impl.Term) string { return shownTo(t, 4) }

func shownTo(t impl.Term, deep int) string {
	text := fmt.Sprintf("%d:%q:%d", t.Kind, t.Name, t.Num)
	if len(t.Kids) == 0 {
		return text
	}
	if deep == 0 {
		return text + "(..)"
	}
	var kids []string
	for _, k := range t.Kids[:min(6, len(t.Kids))] {
		kids = append(kids, shownTo(k, deep-1))
	}
	return text + "(" + strings.Join(kids, " ") + ")"
}

// oddTerms are right but for one thing each.
func oddTerms() []impl.Term {
	a := atomTerm("a")
	return []impl.Term{
		{},
		{Kind: 5},
		{Kind: -1},
		{Kind: math.MaxInt},
		{Kind: math.MinInt},
		{Kind: 0, Name: "a"},
		{Kind: 5, Name: "f", Kids: []impl.Term{a}},
		varTerm(-1),
		varTerm(100000),
		varTerm(math.MaxInt),
		varTerm(math.MinInt),
		{Kind: impl.TmVar, Num: 1, Name: "X"},
		{Kind: impl.TmVar, Num: 1, Kids: []impl.Term{a}},
		intTerm(impl.MaxInt + 1),
		intTerm(-impl.MaxInt - 1),
		intTerm(math.MaxInt),
		intTerm(math.MinInt),
		{Kind: impl.TmInt, Num: 1, Name: "a"},
		{Kind: impl.TmInt, Num: 1, Kids: []impl.Term{a}},
		atomTerm(""),
		atomTerm(strings.Repeat("a", 21)),
		atomTerm("a b"),
		atomTerm(" a"),
		atomTerm("a\x7f"),
		atomTerm("a'"),
		atomTerm("\"a"),
		atomTerm("a\x00"),
		atomTerm("\xc3\xa4"),
		{Kind: impl.TmAtom, Name: "a", Num: 1},
		{Kind: impl.TmAtom, Name: "a", Num: -1},
		{Kind: impl.TmAtom, Name: "a", Kids: []impl.Term{a}},
		structTerm("f"),
		structTerm("f", a, a, a, a, a, a),
		structTerm("", a),
		structTerm(strings.Repeat("f", 21), a),
		structTerm("f\n", a),
		{Kind: impl.TmStruct, Name: "f", Num: 1, Kids: []impl.Term{a}},
		{Kind: impl.TmStruct, Name: "f", Num: -1, Kids: []impl.Term{a}},
	}
}

// rightTerms are of every Kind, at the edges, with Names that begin others, and structs that differ in one thing.
func rightTerms() []impl.Term {
	leaves := []impl.Term{
		varTerm(0), varTerm(1), varTerm(2), varTerm(10), varTerm(99999),
		intTerm(-impl.MaxInt), intTerm(-10), intTerm(-2), intTerm(0), intTerm(1), intTerm(10), intTerm(impl.MaxInt),
		atomTerm("!"), atomTerm("0"), atomTerm("A"), atomTerm("[]"), atomTerm("a"), atomTerm("aa"), atomTerm("ab"), atomTerm("b"), atomTerm("~"),
		atomTerm(strings.Repeat("a", 20)),
	}
	some := []impl.Term{varTerm(0), varTerm(1), intTerm(-2), intTerm(3), atomTerm("a"), atomTerm("ab"), structTerm("a", varTerm(1)), structTerm("a", atomTerm("a"))}
	all := slices.Clone(leaves)
	for _, x := range some {
		all = append(all, structTerm("f", x), structTerm("ff", x), structTerm("a", x), structTerm(".", atomTerm("a"), x))
		for _, y := range some {
			all = append(all, structTerm("f", x, y))
		}
	}
	return append(all,
		structTerm("a", atomTerm("z"), atomTerm("z"), atomTerm("z")),
		structTerm("f", varTerm(0), varTerm(1), varTerm(0)),
		structTerm("f", varTerm(0), varTerm(1), varTerm(1)),
		structTerm("f", atomTerm("a"), atomTerm("a"), atomTerm("a"), atomTerm("a"), atomTerm("a")),
		structTerm("f", structTerm("f", structTerm("f", varTerm(5)))),
		chainTerm(impl.MaxDeep, varTerm(3)),
		chainTerm(impl.MaxDeep, atomTerm("a")),
		wideTerm(impl.MaxSize, varTerm(3)),
		wideTerm(impl.MaxSize, varTerm(4)))
}

// deepOdds are not right for what stands in them.
func deepOdds() []impl.Term {
	var list []impl.Term
	for _, odd := range oddTerms() {
		list = append(list, structTerm("g", atomTerm("a"), varTerm(7), structTerm("h", odd, varTerm(8))), chainTerm(impl.MaxDeep, odd), wideTerm(impl.MaxSize, odd))
	}
	return list
}

// greatTerms are not right for their depth or size alone; some of them can't be gone through as they stand.
func greatTerms() []impl.Term {
	wide := make([]impl.Term, 300000)
	for i := range wide {
		wide[i] = varTerm(i % 1000)
	}
	return []impl.Term{
		chainTerm(impl.MaxDeep+1, varTerm(1)),
		chainTerm(1000, varTerm(1)),
		chainTerm(1000000, varTerm(1)),
		wideTerm(impl.MaxSize+1, varTerm(1)),
		wideTerm(2000, varTerm(1)),
		doubledTerm(9, varTerm(1)),
		doubledTerm(30, varTerm(1)),
		doubledTerm(200, varTerm(1)),
		structTerm("f", wide...),
		endlessTerm(varTerm(1)),
		structTerm("g", endlessTerm(varTerm(2)), endlessTerm(varTerm(1))),
	}
}

func wantOk(t *testing.T, term impl.Term, want bool, what string) {
	t.Helper()
	if got := impl.TermOk(term); got != want {
		t.Errorf("TermOk of %s = %t; want %t", what, got, want)
	}
}

func TestTermConstantsAreTheDocuments(t *testing.T) {
	if impl.TmVar != 1 || impl.TmAtom != 2 || impl.TmInt != 3 || impl.TmStruct != 4 {
		t.Error("a Kind is another one")
	}
	if impl.MaxSize != 400 || impl.MaxDeep != 40 || impl.MaxInt != 999999999 {
		t.Error("a limit of chapter 3 is another one")
	}
}

func TestTermOkOfRightTerms(t *testing.T) {
	for i, term := range rightTerms() {
		if !impl.TermOk(term) {
			t.Errorf("TermOk of right term %d, %s, is false", i, shown(term))
		}
		term.Kids = append(make([]impl.Term, 0, 8), term.Kids...)
		if !impl.TermOk(term) {
			t.Errorf("TermOk of right term %d with an empty list for nil is false", i)
		}
	}
}

func TestTermOkOfOddTerms(t *testing.T) {
	for i, term := range append(oddTerms(), deepOdds()...) {
		if impl.TermOk(term) {
			t.Errorf("TermOk of odd term %d, %s, is true", i, shown(term))
		}
	}
}

func TestTermOkKnowsWhichBytesANameHas(t *testing.T) {
	for b := range 256 {
		one := string([]byte{byte(b)})
		want := b >= 33 && b <= 126 && b != '\'' && b != '"'
		for _, name := range []string{one, "a" + one, one + "a", strings.Repeat("a", 19) + one} {
			wantOk(t, atomTerm(name), want, fmt.Sprintf("the atom %q", name))
			wantOk(t, structTerm(name, intTerm(1)), want, fmt.Sprintf("the struct %q", name))
		}
	}
}

func TestTermOkHoldsItsLimits(t *testing.T) {
	a := atomTerm("a")
	kids := []impl.Term{a, a, a, a, a, a}
	for many := range 7 {
		wantOk(t, structTerm("f", kids[:many]...), many >= 1 && many <= 5, "a struct of some kids")
	}
	for _, deep := range []int{1, 2, 39, 40} {
		wantOk(t, chainTerm(deep, a), true, "a chain that is deep enough")
		wantOk(t, structTerm("f", a, chainTerm(deep, a)), deep < 40, "a chain as second kid")
	}
	for _, deep := range []int{41, 42, 100, 399, 400, 401, 100000} {
		wantOk(t, chainTerm(deep, a), false, "a chain that is too deep")
	}
	for _, size := range []int{2, 3, 6, 7, 50, 398, 399, 400} {
		wantOk(t, wideTerm(size, a), true, "a term that is large enough")
	}
	for _, size := range []int{401, 402, 500, 5000} {
		wantOk(t, wideTerm(size, a), false, "a term that is too large")
	}
}

func TestTermOkOfGreatTerms(t *testing.T) {
	for i, term := range greatTerms() {
		if impl.TermOk(term) {
			t.Errorf("TermOk of great term %d is true", i)
		}
	}
}

func TestSizeOfCountsAll(t *testing.T) {
	for _, size := range []int{2, 3, 6, 7, 11, 399, 400, 401} {
		if got := impl.SizeOf(wideTerm(size, varTerm(1))); got != size {
			t.Errorf("SizeOf a term of %d = %d", size, got)
		}
		if got := impl.SizeOf(chainTerm(size, varTerm(1))); got != size {
			t.Errorf("SizeOf a chain of %d = %d", size, got)
		}
	}
	for i, term := range append(rightTerms(), append(oddTerms(), deepOdds()...)...) {
		if got, want := impl.SizeOf(term), min(countTerms(term), 401); got != want {
			t.Errorf("SizeOf term %d = %d; want %d", i, got, want)
		}
	}
}

func TestSizeOfCountsNoFurther(t *testing.T) {
	for _, size := range []int{402, 403, 800, 5000} {
		if got := impl.SizeOf(wideTerm(size, varTerm(1))); got != 401 {
			t.Errorf("SizeOf a term of %d = %d", size, got)
		}
	}
	for i, term := range greatTerms()[1:] {
		if got := impl.SizeOf(term); got != 401 {
			t.Errorf("SizeOf great term %d = %d", i+1, got)
		}
	}
}

func TestSameTermOfAll(t *testing.T) {
	all := append(rightTerms(), append(oddTerms(), deepOdds()...)...)
	for i, a := range all {
		for j, b := range all {
			if got, want := impl.SameTerm(a, b), equalTerms(a, b); got != want {
				t.Fatalf("SameTerm of terms %d and %d = %t; want %t", i, j, got, want)
			}
		}
		if !impl.SameTerm(a, deepCopy(a)) {
			t.Errorf("SameTerm of term %d and its copy is false", i)
		}
	}
}

func TestSameTermTakesNilForEmpty(t *testing.T) {
	a, b := structTerm("f"), structTerm("f")
	a.Kids, b.Kids = nil, []impl.Term{}
	if !impl.SameTerm(a, b) || !impl.SameTerm(structTerm("g", a), structTerm("g", b)) || !impl.Variant(a, b) {
		t.Error("nil and an empty list are not the same")
	}
}

func TestSameTermOfGreatTerms(t *testing.T) {
	same, other := greatTerms(), greatTerms()
	for i := range same {
		for j := range other {
			if got := impl.SameTerm(same[i], other[j]); got != (i == j) {
				t.Errorf("SameTerm of great terms %d and %d = %t", i, j, got)
			}
		}
	}
	for _, many := range []int{200, 2000, 200000} {
		if impl.SameTerm(chainTerm(many, atomTerm("a")), chainTerm(many, atomTerm("b"))) || impl.SameTerm(doubledTerm(many, atomTerm("a")), doubledTerm(many, atomTerm("b"))) {
			t.Errorf("SameTerm does not look at what stands %d deep", many)
		}
	}
}

func TestSameTermOfEndlessTerms(t *testing.T) {
	one := endlessTerm(varTerm(1))
	unrolled := structTerm("f", varTerm(1), structTerm("f", varTerm(1), endlessTerm(varTerm(1))))
	if !impl.SameTerm(one, unrolled) || !impl.Variant(one, unrolled) {
		t.Error("an endless term is not the same as itself, unrolled")
	}
	for i, other := range []impl.Term{
		endlessTerm(varTerm(2)),
		structTerm("f", varTerm(1), structTerm("f", varTerm(2), endlessTerm(varTerm(1)))),
		structTerm("f", varTerm(1), structTerm("f", varTerm(1), endlessTerm(atomTerm("a")))),
		structTerm("f", varTerm(1), atomTerm("a")),
	} {
		if impl.SameTerm(one, other) || impl.SameTerm(other, one) {
			t.Errorf("an endless term is the same as another one, %d", i)
		}
	}
}

// afterMany has the terms behind and below so many lists that marks are needed to go on, and a copy may share some.
func afterMany(terms ...impl.Term) impl.Term {
	many := make([]impl.Term, 100001)
	for i := range many {
		many[i] = atomTerm("a")
	}
	return structTerm("e", structTerm("w", many...), chainTerm(1000, structTerm("g", terms...)))
}

// Lists that begin at one place may be of unlike lengths.
func TestListsAreNotTakenForTheirBeginnings(t *testing.T) {
	x, y, z := varTerm(1), varTerm(2), varTerm(3)
	kids := []impl.Term{x, y, z}
	a := afterMany(structTerm("f", kids[:1]...), structTerm("f", kids...), structTerm("f", kids[:2]...))
	with := func(third impl.Term) impl.Term {
		other := []impl.Term{x, y, third}
		return afterMany(structTerm("f", other[:1]...), structTerm("f", other...), structTerm("f", other[:2]...))
	}
	if impl.SameTerm(a, with(varTerm(4))) || impl.SameTerm(a, with(atomTerm("a"))) || !impl.SameTerm(a, with(z)) {
		t.Error("SameTerm takes a longer list for its beginning")
	}
	if impl.Variant(a, with(x)) || impl.Variant(a, with(atomTerm("a"))) || !impl.Variant(a, with(varTerm(4))) {
		t.Error("Variant takes a longer list for its beginning")
	}
	wantVars(t, a, 1, 2, 3)
	wantShifted(t, a, 1, a)
}

// A list that stands in two places may be held against two others.
func TestListsAreHeldAgainstEachOther(t *testing.T) {
	x := structTerm("f", varTerm(1))
	y := structTerm("f", varTerm(2))
	a, b := afterMany(x, x), afterMany(x, y)
	if impl.SameTerm(a, b) || impl.SameTerm(b, a) || impl.Variant(a, b) || impl.Variant(b, a) {
		t.Error("a list is held against one other only")
	}
	a, b = afterMany(x, x), afterMany(y, x)
	if impl.SameTerm(a, b) || impl.SameTerm(b, a) || impl.Variant(a, b) || impl.Variant(b, a) {
		t.Error("a list is held against one other only")
	}
	if a, b = afterMany(x, x), afterMany(y, y); impl.SameTerm(a, b) || !impl.Variant(a, b) {
		t.Error("lists that stand twice are not those of a Variant")
	}
}

// kindPlace is the document's order of Kinds.
func kindPlace(kind int) int {
	return slices.Index([]int{impl.TmVar, impl.TmInt, impl.TmAtom, impl.TmStruct}, kind)
}

func sign(less, more bool) int {
	if less {
		return -1
	}
	if more {
		return 1
	}
	return 0
}

// orderByRule is the document's rule for CompareTerm of right terms.
func orderByRule(a, b impl.Term) int {
	order := []int{
		sign(kindPlace(a.Kind) < kindPlace(b.Kind), kindPlace(a.Kind) > kindPlace(b.Kind)),
		sign(a.Num < b.Num, a.Num > b.Num),
		sign(len(a.Kids) < len(b.Kids), len(a.Kids) > len(b.Kids)),
		sign(a.Name < b.Name, a.Name > b.Name),
	}
	for i := 0; i < min(len(a.Kids), len(b.Kids)); i++ {
		order = append(order, orderByRule(a.Kids[i], b.Kids[i]))
	}
	for _, c := range order {
		if c != 0 {
			return c
		}
	}
	return 0
}

func TestCompareTermIsTheDocumentsRule(t *testing.T) {
	all := rightTerms()
	for i, a := range all {
		for j, b := range all {
			got := impl.CompareTerm(a, b)
			if got != orderByRule(a, b) {
				t.Errorf("CompareTerm of terms %d and %d = %d; want %d", i, j, got, orderByRule(a, b))
			}
			if back := impl.CompareTerm(b, a); got != -back {
				t.Errorf("CompareTerm of terms %d and %d = %d; the other way round %d", i, j, got, back)
			}
			if (got == 0) != impl.SameTerm(a, b) {
				t.Errorf("CompareTerm of terms %d and %d = %d; SameTerm %t", i, j, got, impl.SameTerm(a, b))
			}
		}
	}
}

func TestCompareTermIsOneOrder(t *testing.T) {
	all := rightTerms()
	order := make([][]int, len(all))
	for i, a := range all {
		for _, b := range all {
			order[i] = append(order[i], impl.CompareTerm(a, b))
		}
	}
	for i := range all {
		for j := range all {
			for k := range all {
				if order[i][j] <= 0 && order[j][k] <= 0 && order[i][k] > 0 {
					t.Fatalf("term %d is not behind %d, nor that behind %d; but it is behind that", i, j, k)
				}
			}
		}
	}
}

func TestCompareTermOfTermsWrittenOut(t *testing.T) {
	a, b := atomTerm("a"), atomTerm("b")
	ascending := []impl.Term{
		varTerm(0), varTerm(2), varTerm(10), varTerm(99999),
		intTerm(-impl.MaxInt), intTerm(-10), intTerm(-9), intTerm(0), intTerm(9), intTerm(10), intTerm(impl.MaxInt),
		atomTerm("!"), atomTerm("B"), a, atomTerm("aa"), atomTerm("ab"), b, atomTerm("~"),
		structTerm("z", a), structTerm("zz", varTerm(0)),
		structTerm("a", a, a), structTerm("aa", varTerm(0), a),
		structTerm("f", varTerm(7), b), structTerm("f", varTerm(8), a), structTerm("f", intTerm(5), b), structTerm("f", a, a), structTerm("f", a, b),
		structTerm("f", structTerm("g", a), b), structTerm("f", structTerm("g", b), a), structTerm("f", structTerm("a", a, a), a),
		structTerm("a", a, a, a), structTerm("b", a, a, a, a, varTerm(0)),
	}
	for i, x := range ascending {
		for j, y := range ascending {
			if got, want := impl.CompareTerm(x, y), sign(i < j, i > j); got != want {
				t.Errorf("CompareTerm(%s, %s) = %d; want %d", shown(x), shown(y), got, want)
			}
		}
	}
}

func TestCompareTermLooksToTheEnd(t *testing.T) {
	one, two := chainTerm(impl.MaxDeep, varTerm(3)), chainTerm(impl.MaxDeep, intTerm(3))
	if impl.CompareTerm(one, two) != -1 || impl.CompareTerm(two, one) != 1 {
		t.Error("CompareTerm does not look at what stands deepest")
	}
	one, two = wideTerm(impl.MaxSize, varTerm(3)), wideTerm(impl.MaxSize, varTerm(2))
	if impl.CompareTerm(one, two) != 1 || impl.CompareTerm(two, one) != -1 {
		t.Error("CompareTerm does not look at what stands last")
	}
}

func TestCompareTermOfOthersIsNothing(t *testing.T) {
	odds := append(oddTerms(), append(deepOdds(), greatTerms()...)...)
	for i, odd := range odds {
		for _, right := range []impl.Term{varTerm(0), intTerm(0), atomTerm("a"), structTerm("f", atomTerm("a"))} {
			if impl.CompareTerm(odd, right) != 0 || impl.CompareTerm(right, odd) != 0 {
				t.Errorf("CompareTerm of odd term %d and %s is not 0", i, shown(right))
			}
		}
		if impl.CompareTerm(odd, odd) != 0 || impl.CompareTerm(odd, odds[len(odds)-1-i]) != 0 {
			t.Errorf("CompareTerm of odd term %d and an odd one is not 0", i)
		}
	}
}

func wantVars(t *testing.T, term impl.Term, want ...int) {
	t.Helper()
	if got := impl.VarsOf(term); !slices.Equal(got, want) {
		t.Errorf("VarsOf(%s) = %v .., %d in all; want %v .., %d in all", shown(term), got[:min(20, len(got))], len(got), want[:min(20, len(want))], len(want))
	}
}

func TestVarsOfTellsFirstPlaces(t *testing.T) {
	x, y, z, a := varTerm(5), varTerm(2), varTerm(9), atomTerm("a")
	wantVars(t, a)
	wantVars(t, intTerm(5))
	wantVars(t, structTerm("f", a, intTerm(2), structTerm("g", a)))
	wantVars(t, x, 5)
	wantVars(t, varTerm(0), 0)
	wantVars(t, structTerm("f", x, x, x), 5)
	wantVars(t, structTerm("f", x, y, x, z), 5, 2, 9)
	wantVars(t, structTerm("f", structTerm("g", z, structTerm("h", y)), x, y), 9, 2, 5)
	wantVars(t, structTerm("f", x, structTerm("g", structTerm("h", z), y), x, structTerm("g", varTerm(1))), 5, 9, 2, 1)
	wantVars(t, structTerm("f", intTerm(5), x, intTerm(2), y), 5, 2)
	wantVars(t, structTerm("f", varTerm(0), varTerm(99999)), 0, 99999)
}

func TestVarsOfManyNumbers(t *testing.T) {
	var want []int
	whole := make([]impl.Term, 4)
	for i := range whole {
		whole[i] = structTerm("f", make([]impl.Term, 5)...)
		for j := range whole[i].Kids {
			n := (len(want)*7 + 3) % 20
			want = append(want, n)
			whole[i].Kids[j] = structTerm("g", varTerm(n), atomTerm("a"), varTerm(want[len(want)/2]))
		}
	}
	wantVars(t, structTerm("f", whole...), want...)
	wantVars(t, structTerm("f", whole[1], whole[0], whole[1]), 18, 4, 5, 12, 11, 19, 6, 3, 10, 17)
}

func TestVarsOfWhatIsNotRight(t *testing.T) {
	wantVars(t, impl.Term{})
	wantVars(t, varTerm(-1), -1)
	wantVars(t, structTerm("", varTerm(math.MaxInt), varTerm(math.MinInt), varTerm(math.MaxInt)), math.MaxInt, math.MinInt)
	wantVars(t, chainTerm(1000000, structTerm("f", varTerm(4), varTerm(3))), 4, 3)
	wantVars(t, doubledTerm(200, structTerm("f", varTerm(4), varTerm(3))), 4, 3)
	wantVars(t, structTerm("f", doubledTerm(200, varTerm(7)), doubledTerm(200, varTerm(6)), varTerm(7), varTerm(1)), 7, 6, 1)
	wantVars(t, endlessTerm(varTerm(8)), 8)
	wantVars(t, structTerm("f", endlessTerm(varTerm(8)), varTerm(7)), 8, 7)
	many := make([]impl.Term, 200000)
	var want []int
	for i := range many {
		many[i] = varTerm(-i)
		want = append(want, -i)
	}
	wantVars(t, structTerm("f", many...), want...)
}

func wantVariant(t *testing.T, a, b impl.Term, want bool) {
	t.Helper()
	if got := impl.Variant(a, b); got != want {
		t.Errorf("Variant(%s, %s) = %t; want %t", shown(a), shown(b), got, want)
	}
	if got := impl.Variant(b, a); got != want {
		t.Errorf("Variant(%s, %s) = %t; want %t", shown(b), shown(a), got, want)
	}
}

func TestVariantRenamesOneForOne(t *testing.T) {
	x, y, z := varTerm(1), varTerm(2), varTerm(3)
	wantVariant(t, x, x, true)
	wantVariant(t, x, y, true)
	wantVariant(t, structTerm("f", x, y), structTerm("f", y, x), true)
	wantVariant(t, structTerm("f", x, y), structTerm("f", y, z), true)
	wantVariant(t, structTerm("f", x, y, z), structTerm("f", y, z, x), true)
	wantVariant(t, structTerm("f", x, y, x), structTerm("f", z, x, z), true)
	wantVariant(t, structTerm("f", x, structTerm("g", x, y)), structTerm("f", y, structTerm("g", y, x)), true)
	wantVariant(t, structTerm("f", varTerm(0), varTerm(99999)), structTerm("f", varTerm(99999), varTerm(0)), true)
	wantVariant(t, structTerm("f", varTerm(0), varTerm(1)), structTerm("f", varTerm(0), varTerm(0)), false)
	wantVariant(t, structTerm("f", x, y), structTerm("f", x, x), false)
	wantVariant(t, structTerm("f", x, y), structTerm("f", z, z), false)
	wantVariant(t, structTerm("f", x, y, x), structTerm("f", x, y, y), false)
	wantVariant(t, structTerm("f", x, y, x), structTerm("f", x, y, z), false)
	wantVariant(t, structTerm("f", x, y, z), structTerm("f", y, z, y), false)
	wantVariant(t, structTerm("f", x, structTerm("g", x, y)), structTerm("f", x, structTerm("g", y, x)), false)
}

func TestVariantWantsOneShape(t *testing.T) {
	x, a := varTerm(1), atomTerm("a")
	wantVariant(t, x, a, false)
	wantVariant(t, x, intTerm(1), false)
	wantVariant(t, a, atomTerm("b"), false)
	wantVariant(t, intTerm(1), intTerm(2), false)
	wantVariant(t, structTerm("f", x), structTerm("g", x), false)
	wantVariant(t, structTerm("f", x), structTerm("f", x, x), false)
	wantVariant(t, structTerm("f", x), structTerm("f", a), false)
	wantVariant(t, structTerm("f", x, a), structTerm("f", a, x), false)
	wantVariant(t, structTerm("f", x), x, false)
	wantVariant(t, structTerm("f", a), a, false)
	wantVariant(t, structTerm("f", structTerm("g", x), x), structTerm("f", x, structTerm("g", x)), false)
}

// variantByRule gives the numbers of each term names by their first places.
func variantByRule(a, b impl.Term) bool {
	return equalTerms(namedByPlace(a, map[int]int{}), namedByPlace(b, map[int]int{}))
}

func namedByPlace(t impl.Term, names map[int]int) impl.Term {
	if t.Kind == impl.TmVar {
		if _, named := names[t.Num]; !named {
			names[t.Num] = len(names)
		}
		t.Num = names[t.Num]
	}
	kids := slices.Clone(t.Kids)
	for i := range kids {
		kids[i] = namedByPlace(kids[i], names)
	}
	t.Kids = kids
	return t
}

func TestVariantOfAll(t *testing.T) {
	all := append(rightTerms(), oddTerms()...)
	for i, a := range all {
		for j, b := range all {
			if got, want := impl.Variant(a, b), variantByRule(a, b); got != want {
				t.Errorf("Variant of terms %d and %d = %t; want %t", i, j, got, want)
			}
		}
	}
}

func TestVariantOfGreatTerms(t *testing.T) {
	x, y := varTerm(1), varTerm(2)
	wantVariant(t, chainTerm(100000, x), chainTerm(100000, y), true)
	wantVariant(t, chainTerm(100000, x), chainTerm(100000, atomTerm("a")), false)
	wantVariant(t, chainTerm(100000, structTerm("f", x, y)), chainTerm(100000, structTerm("f", x, x)), false)
	wantVariant(t, doubledTerm(200, x), doubledTerm(200, y), true)
	wantVariant(t, doubledTerm(200, structTerm("f", x, y)), doubledTerm(200, structTerm("f", y, x)), true)
	wantVariant(t, doubledTerm(200, structTerm("f", x, y)), doubledTerm(200, structTerm("f", y, y)), false)
	wantVariant(t, structTerm("f", doubledTerm(200, x), x), structTerm("f", doubledTerm(200, y), x), false)
	wantVariant(t, endlessTerm(x), endlessTerm(y), true)
	wantVariant(t, endlessTerm(x), endlessTerm(atomTerm("a")), false)
	wantVariant(t, structTerm("f", endlessTerm(x), x), structTerm("f", endlessTerm(y), x), false)
}

func wantShifted(t *testing.T, term impl.Term, by int, want impl.Term) {
	t.Helper()
	if got := impl.Shifted(term, by); !equalTerms(got, want) {
		t.Errorf("Shifted(%s, %d) = %s; want %s", shown(term), by, shown(got), shown(want))
	}
}

func TestShiftedAddsToEachNumber(t *testing.T) {
	a, n := atomTerm("a"), intTerm(7)
	wantShifted(t, varTerm(3), 4, varTerm(7))
	wantShifted(t, varTerm(3), 0, varTerm(3))
	wantShifted(t, varTerm(3), -3, varTerm(0))
	wantShifted(t, structTerm("f", varTerm(3), a, n, varTerm(5), varTerm(3)), 10, structTerm("f", varTerm(13), a, n, varTerm(15), varTerm(13)))
	wantShifted(t, structTerm("f", structTerm("g", varTerm(3)), structTerm("h", structTerm("g", varTerm(9)))), -2, structTerm("f", structTerm("g", varTerm(1)), structTerm("h", structTerm("g", varTerm(7)))))
	wantShifted(t, chainTerm(impl.MaxDeep, varTerm(1)), 5, chainTerm(impl.MaxDeep, varTerm(6)))
	wantShifted(t, wideTerm(impl.MaxSize, varTerm(1)), 5, wideTerm(impl.MaxSize, varTerm(6)))
	for _, by := range []int{0, 1, -1, 100000, -100000, math.MaxInt, math.MinInt} {
		for _, whole := range []impl.Term{a, n, structTerm("f", a, structTerm("g", n))} {
			wantShifted(t, whole, by, whole)
		}
	}
}

func TestShiftedStaysWithinItsLimits(t *testing.T) {
	term := structTerm("f", varTerm(3), atomTerm("a"), varTerm(99990))
	wantShifted(t, term, 9, structTerm("f", varTerm(12), atomTerm("a"), varTerm(99999)))
	wantShifted(t, term, -3, structTerm("f", varTerm(0), atomTerm("a"), varTerm(99987)))
	for _, by := range []int{10, -4, 99999, -99990, 100000, math.MaxInt, math.MaxInt - 3, math.MaxInt - 99990, math.MinInt, math.MinInt + 3} {
		wantShifted(t, term, by, term)
	}
	wantShifted(t, varTerm(0), 99999, varTerm(99999))
	wantShifted(t, varTerm(0), 100000, varTerm(0))
	wantShifted(t, varTerm(99999), -99999, varTerm(0))
	wantShifted(t, varTerm(99999), -100000, varTerm(99999))
	wantShifted(t, varTerm(99999), 1, varTerm(99999))
	wantShifted(t, varTerm(0), -1, varTerm(0))
}

func TestShiftedOfWhatIsNotRight(t *testing.T) {
	for _, term := range append(oddTerms(), deepOdds()...) {
		for _, by := range []int{0, 1, -1, 5, math.MaxInt, math.MinInt} {
			wantShifted(t, term, by, term)
		}
	}
	wantShifted(t, structTerm("f", varTerm(-1)), 1, structTerm("f", varTerm(-1)))
	wantShifted(t, structTerm("f", varTerm(100000)), -1, structTerm("f", varTerm(100000)))
}

func TestShiftedOfGreatTerms(t *testing.T) {
	for i, term := range greatTerms() {
		if !impl.SameTerm(impl.Shifted(term, 1), term) {
			t.Errorf("Shifted of great term %d is another one", i)
		}
	}
}

// listsIn are the lists in a term, each that is met, up to so many.
func listsIn(t impl.Term, most int) [][]impl.Term {
	lists := [][]impl.Term{t.Kids}
	for i := 0; i < len(lists) && len(lists) < most; i++ {
		for _, k := range lists[i] {
			if len(k.Kids) > 0 {
				lists = append(lists, k.Kids)
			}
		}
	}
	return lists
}

func TestShiftedAnswersNewMemory(t *testing.T) {
	shared := []impl.Term{varTerm(1), atomTerm("a")}
	twice := structTerm("f", structTerm("g", shared...), structTerm("g", shared...))
	odd := structTerm("f", structTerm("g", shared...), structTerm("", shared...))
	for _, term := range []impl.Term{twice, odd} {
		for _, by := range []int{0, 3, -2} {
			before := deepCopy(term)
			got := impl.Shifted(term, by)
			first := got.Kids[0].Kids[0].Num
			got.Kids[1].Kids[0].Num = -50
			if got.Kids[0].Kids[0].Num != first || !equalTerms(term, before) {
				t.Errorf("Shifted(%s, %d) shares its lists", shown(term), by)
			}
			answer := deepCopy(got)
			shared[0].Num = 77
			if !equalTerms(got, answer) {
				t.Errorf("Shifted(%s, %d) shares lists with what was asked", shown(term), by)
			}
			shared[0].Num = 1
		}
	}
}

func TestShiftedOfGreatTermsAnswersNewMemory(t *testing.T) {
	for i, term := range greatTerms() {
		asked := map[*impl.Term]bool{}
		for _, list := range listsIn(term, 2000) {
			asked[&list[0]] = true
		}
		for _, list := range listsIn(impl.Shifted(term, 1), 2000) {
			if asked[&list[0]] {
				t.Errorf("Shifted of great term %d shares a list with it", i)
			}
		}
	}
}

func TestShiftedSharesNoListsWhileItCan(t *testing.T) {
	met := map[*impl.Term]bool{}
	for _, list := range listsIn(impl.Shifted(doubledTerm(12, varTerm(1)), 1), 10000) {
		if met[&list[0]] {
			t.Fatal("two lists of one answer share memory")
		}
		met[&list[0]] = true
	}
}

func TestShiftedAnswersNewNames(t *testing.T) {
	name := strings.Repeat("n", 12)
	for _, term := range []impl.Term{atomTerm(name), structTerm(name, varTerm(1)), structTerm("f", atomTerm(name)), structTerm("", atomTerm(name)), structTerm(name, impl.Term{})} {
		for _, got := range append([]impl.Term{impl.Shifted(term, 1)}, impl.Shifted(term, 1).Kids...) {
			if got.Name == name && shares(name, got.Name) {
				t.Errorf("Shifted(%s, 1) shares a Name", shown(term))
			}
		}
	}
}

// withSpare has room behind each of its lists, with a term in it.
func withSpare(t impl.Term) impl.Term {
	kids := make([]impl.Term, 0, len(t.Kids)+2)
	for _, k := range t.Kids {
		kids = append(kids, withSpare(k))
	}
	kids = append(kids, atomTerm("spare"), intTerm(42))
	t.Kids = kids[:len(kids)-2]
	return t
}

func spareUntouched(t impl.Term) bool {
	behind := t.Kids[:len(t.Kids)+2][len(t.Kids):]
	if !equalTerms(behind[0], atomTerm("spare")) || !equalTerms(behind[1], intTerm(42)) {
		return false
	}
	for _, k := range t.Kids {
		if !spareUntouched(k) {
			return false
		}
	}
	return true
}

func TestTermsAreNotWrittenInto(t *testing.T) {
	all := append(rightTerms(), append(oddTerms(), deepOdds()...)...)
	for i, term := range all {
		asked, other := withSpare(term), withSpare(term)
		impl.TermOk(asked)
		impl.SizeOf(asked)
		impl.SameTerm(asked, other)
		impl.CompareTerm(asked, other)
		impl.VarsOf(asked)
		impl.Variant(asked, other)
		impl.Shifted(asked, 1)
		impl.Shifted(asked, -1)
		for _, got := range []impl.Term{asked, other} {
			if !equalTerms(got, term) || !spareUntouched(got) {
				t.Fatalf("term %d was written into", i)
			}
		}
	}
}

func TestVarsOfAnswersNewMemory(t *testing.T) {
	term := structTerm("f", varTerm(1), varTerm(2))
	got := impl.VarsOf(term)
	got[0] = 9
	if term.Kids[0].Num != 1 || !slices.Equal(impl.VarsOf(term), []int{1, 2}) {
		t.Error("VarsOf keeps what it has told")
	}
}
