package tests

import (
	"fmt"
	"math/rand"
	"slices"
	"strings"
	"testing"

	"loop.example/g00469/impl"
)

func ruleTerm(head, body impl.Term) impl.Term { return structTerm("-->", head, body) }

func andTerm(a, b impl.Term) impl.Term { return structTerm(",", a, b) }

func orTerm(a, b impl.Term) impl.Term { return structTerm(";", a, b) }

func notTerm(a impl.Term) impl.Term { return structTerm(`\+`, a) }

func doTerm(a impl.Term) impl.Term { return structTerm("do", a) }

func sameAs(a, b impl.Term) impl.Term { return structTerm("=", a, b) }

// behindKids is the name or struct with more Kids.
func behindKids(t impl.Term, more ...impl.Term) impl.Term {
	return structTerm(t.Name, slices.Concat(t.Kids, more)...)
}

func isOf(t impl.Term, name string, kids int) bool {
	return t.Kind == impl.TmStruct && t.Name == name && len(t.Kids) == kids
}

// itemsByRule are those of a list, and whether it is one.
func itemsByRule(t impl.Term) ([]impl.Term, bool) {
	if isOf(t, ".", 2) {
		rest, ok := itemsByRule(t.Kids[1])
		return append([]impl.Term{t.Kids[0]}, rest...), ok
	}
	return nil, t.Kind == impl.TmAtom && t.Name == "[]"
}

// placesByRule tells, from left to right, the bodies that meet a new TmVar, each by the Kids on the way to it.
func placesByRule(t impl.Term, place string) []string {
	switch {
	case isOf(t, ",", 2):
		return slices.Concat([]string{place}, placesByRule(t.Kids[0], place+"0"), placesByRule(t.Kids[1], place+"1"))
	case isOf(t, ";", 2):
		return slices.Concat(placesByRule(t.Kids[0], place+"0"), placesByRule(t.Kids[1], place+"1"))
	case isOf(t, `\+`, 1):
		return slices.Concat([]string{place}, placesByRule(t.Kids[0], place+"0"))
	}
	return nil
}

// newVars has the new TmVar of each body that meets one.
type newVars map[string]impl.Term

func (n newVars) body(t impl.Term, place string, x, y impl.Term) (impl.Term, bool) {
	items, isList := itemsByRule(t)
	switch {
	case isOf(t, ",", 2):
		a, one := n.body(t.Kids[0], place+"0", x, n[place])
		b, other := n.body(t.Kids[1], place+"1", n[place], y)
		return andTerm(a, b), one && other
	case isOf(t, ";", 2):
		a, one := n.body(t.Kids[0], place+"0", x, y)
		b, other := n.body(t.Kids[1], place+"1", x, y)
		return orTerm(a, b), one && other
	case isOf(t, `\+`, 1):
		a, ok := n.body(t.Kids[0], place+"0", x, n[place])
		return andTerm(notTerm(a), sameAs(x, y)), ok
	case isOf(t, "do", 1):
		return andTerm(t.Kids[0], sameAs(x, y)), true
	case isList:
		return sameAs(x, listBefore(y, items...)), true
	}
	return nonterminalByRule(t, x, y)
}

func nonterminalByRule(t, x, y impl.Term) (impl.Term, bool) {
	if t.Kind != impl.TmAtom && t.Kind != impl.TmStruct || len(t.Kids) > 3 || !headByRule(predByRule(t)) {
		return impl.Term{}, false
	}
	return behindKids(t, x, y), true
}

// grammarByRule is the document's rule once more: the new TmVars are all numbered ahead, and the clause is made with them.
func grammarByRule(t impl.Term) (impl.Term, bool) {
	if !impl.TermOk(t) || !isOf(t, "-->", 2) {
		return impl.Term{}, false
	}
	next := 0
	for _, number := range firstNumbers(t, nil) {
		next = max(next, number+1)
	}
	n := newVars{}
	for i, place := range placesByRule(t.Kids[1], "") {
		n[place] = varTerm(next + 2 + i)
	}
	head, one := nonterminalByRule(t.Kids[0], varTerm(next), varTerm(next+1))
	body, other := n.body(t.Kids[1], "", varTerm(next), varTerm(next+1))
	clause := ifTerm(head, body)
	if !one || !other || !impl.TermOk(clause) || !headByRule(predByRule(head)) {
		return impl.Term{}, false
	}
	return clause, true
}

func wantGrammar(t *testing.T, rule, want impl.Term) {
	t.Helper()
	if got, ok := impl.GrammarOf(rule); !ok || !equalTerms(got, want) {
		t.Errorf("GrammarOf(%s) = %s, %t; want %s", shownTo(rule, 6), shownTo(got, 8), ok, shownTo(want, 8))
	}
}

func wantNoGrammar(t *testing.T, rules ...impl.Term) {
	t.Helper()
	for _, rule := range rules {
		if got, ok := impl.GrammarOf(rule); ok || !equalTerms(got, impl.Term{}) {
			t.Errorf("GrammarOf(%s) = %s, %t; want nothing, false", shownTo(rule, 6), shownTo(got, 8), ok)
		}
	}
}

func wantGrammarByRule(t *testing.T, rule impl.Term) bool {
	t.Helper()
	got, ok := impl.GrammarOf(rule)
	want, may := grammarByRule(rule)
	if ok != may || !equalTerms(got, want) {
		t.Fatalf("GrammarOf(%s) = %s, %t; want %s, %t", shownTo(rule, 8), shownTo(got, 10), ok, shownTo(want, 10), may)
	}
	return ok
}

// wantBody is for bodies without TmVars: S0 and S are 0 and 1, and the next new one is 2.
func wantBody(t *testing.T, body, want impl.Term) {
	t.Helper()
	wantGrammar(t, ruleTerm(atomTerm("s"), body), ifTerm(structTerm("s", varTerm(0), varTerm(1)), want))
}

func wantNoBody(t *testing.T, bodies ...impl.Term) {
	t.Helper()
	for _, body := range bodies {
		wantNoGrammar(t, ruleTerm(atomTerm("s"), body))
	}
}

func readOne(t *testing.T, text string) impl.Term {
	t.Helper()
	term, _, ok := impl.ReadTerm(text + " .")
	if !ok {
		t.Fatalf("%q is no term", text)
	}
	return term
}

func wantRule(t *testing.T, text, want string) {
	t.Helper()
	got, ok := impl.GrammarOf(readOne(t, text))
	if written := impl.WriteTerm(got); !ok || written != want {
		t.Errorf("GrammarOf %q is written %q, %t; want %q", text, written, ok, want)
	}
}

func TestGrammarOfRulesThatAreRead(t *testing.T) {
	wantRule(t, "s --> a", "(s(_0,_1) :- a(_0,_1))")
	wantRule(t, "s --> a, b", "(s(_0,_1) :- (a(_0,_2) , b(_2,_1)))")
	wantRule(t, "s --> a ; b", "(s(_0,_1) :- (a(_0,_1) ; b(_0,_1)))")
	wantRule(t, "s --> \\+ a", "(s(_0,_1) :- (\\+(a(_0,_2)) , (_0 = _1)))")
	wantRule(t, "s --> do(g)", "(s(_0,_1) :- (g , (_0 = _1)))")
	wantRule(t, "s --> do((g, !))", "(s(_0,_1) :- ((g , !) , (_0 = _1)))")
	wantRule(t, "s --> a, do(g), b", "(s(_0,_1) :- (a(_0,_2) , ((g , (_2 = _3)) , b(_3,_1))))")
	wantRule(t, "s --> []", "(s(_0,_1) :- (_0 = _1))")
	wantRule(t, "s --> [a]", "(s(_0,_1) :- (_0 = [a|_1]))")
	wantRule(t, "s --> [a, b]", "(s(_0,_1) :- (_0 = [a,b|_1]))")
	wantRule(t, "s --> [a], s, [b]", "(s(_0,_1) :- ((_0 = [a|_2]) , (s(_2,_3) , (_3 = [b|_1]))))")
	wantRule(t, "s --> [a] ; [b], s ; []", "(s(_0,_1) :- ((_0 = [a|_1]) ; (((_0 = [b|_2]) , s(_2,_1)) ; (_0 = _1))))")
	wantRule(t, "s(N) --> [a, b], t(N)", "(s(_0,_1,_2) :- ((_1 = [a,b|_3]) , t(_0,_3,_2)))")
	wantRule(t, "s(X, Y) --> t(Y), do(X is Y)", "(s(_0,_1,_2,_3) :- (t(_1,_2,_4) , ((_0 is _1) , (_4 = _3))))")
	wantRule(t, "s(X, Y, Z) --> [X], u(Y, Z)", "(s(_0,_1,_2,_3,_4) :- ((_3 = [_0|_5]) , u(_1,_2,_5,_4)))")
	wantRule(t, "s(f(X), Y) --> [f(Y), X]", "(s(f(_0),_1,_2,_3) :- (_2 = [f(_1),_0|_3]))")
	wantRule(t, "s --> [X], t(X, Y), do(p(Y))", "(s(_2,_3) :- ((_2 = [_0|_4]) , (t(_0,_1,_4,_5) , (p(_1) , (_5 = _3)))))")
	wantRule(t, "s --> do(a) ; \\+ [b]", "(s(_0,_1) :- ((a , (_0 = _1)) ; (\\+((_0 = [b|_2])) , (_0 = _1))))")
	wantRule(t, "s --> X + Y", "(s(_2,_3) :- +(_0,_1,_2,_3))")
	wantRule(t, "[] --> []", "('[]'(_0,_1) :- (_0 = _1))")
}

func TestGrammarOfHeads(t *testing.T) {
	a, f, x, y := atomTerm("a"), structTerm("f", varTerm(3)), varTerm(4), varTerm(5)
	kids := []impl.Term{f, a, intTerm(-7), a, a}
	for _, name := range []string{"s", "[]", ".", "!!", "do", "atoms", "true2", "X", "a(b"} {
		wantGrammar(t, ruleTerm(atomTerm(name), f), ifTerm(structTerm(name, x, y), structTerm("f", varTerm(3), x, y)))
		for many := 1; many <= 5; many++ {
			head := structTerm(name, kids[:many]...)
			if many > 3 {
				wantNoGrammar(t, ruleTerm(head, f), ruleTerm(head, listTerm()), ruleTerm(head, doTerm(f)))
				continue
			}
			wantGrammar(t, ruleTerm(head, f), ifTerm(behindKids(head, x, y), structTerm("f", varTerm(3), x, y)))
		}
	}
	for _, head := range []impl.Term{varTerm(0), varTerm(99997), varTerm(99999), intTerm(0), intTerm(1), intTerm(-impl.MaxInt)} {
		wantNoGrammar(t, ruleTerm(head, a), ruleTerm(head, listTerm()), ruleTerm(head, listTerm(a)), ruleTerm(head, doTerm(a)))
	}
}

// A head is a name or struct as it stands, also where a body would be another thing.
func TestGrammarOfHeadsThatWouldBeBodies(t *testing.T) {
	a, x, y := atomTerm("a"), varTerm(0), varTerm(1)
	for _, head := range []impl.Term{
		atomTerm("[]"), listTerm(a), listTerm(a, a), listBefore(a, a), structTerm("[]", a), structTerm(".", a), structTerm(".", a, a, a),
		atomTerm("do"), doTerm(a), structTerm("do", a, a), structTerm(",", a), structTerm(",", a, a, a), structTerm(";", a), structTerm(";", a, a, a), structTerm(`\+`, a, a), atomTerm(`\+`),
	} {
		wantGrammar(t, ruleTerm(head, a), ifTerm(behindKids(head, x, y), structTerm("a", x, y)))
		wantGrammar(t, ruleTerm(head, listTerm(a)), ifTerm(behindKids(head, x, y), sameAs(x, listBefore(y, a))))
	}
	wantNoGrammar(t, ruleTerm(andTerm(a, listTerm(a)), a), ruleTerm(orTerm(a, a), a), ruleTerm(notTerm(a), a))
}

func TestGrammarOfWhatIsNoRule(t *testing.T) {
	a := atomTerm("a")
	wantNoGrammar(t, rightTerms()...)
	wantNoGrammar(t, atomTerm("-->"), structTerm("-->", a), structTerm("-->", a, a, a), structTerm("-->", a, a, a, a), structTerm("-->", a, a, a, a, a), structTerm("-->", ruleTerm(a, a)))
	for _, name := range []string{":-", "->", "--", "--->", "=", ",", "-->-->", "do", "a"} {
		wantNoGrammar(t, structTerm(name, a, a), structTerm(name, ruleTerm(a, a), a), structTerm(name, a, ruleTerm(a, a)))
	}
	wantNoGrammar(t, listTerm(ruleTerm(a, a)), structTerm("f", ruleTerm(a, a)), structTerm(":-", ruleTerm(a, a)))
	// A rule is no nonterminal of another one.
	wantNoGrammar(t, ruleTerm(ruleTerm(a, a), a), ruleTerm(a, ruleTerm(a, a)), ruleTerm(a, andTerm(a, ruleTerm(a, a))))
	for _, text := range []string{"s :- a, b", "s", "s -> a", "X", "7", "[]", ":- (s --> a)", "p((s --> a))", "(s --> a), b", "-->(s)", "-->(s, a, b)"} {
		wantNoGrammar(t, readOne(t, text))
	}
}

// leafBodies have no body within.
func leafBodies() []impl.Term {
	a, b := atomTerm("a"), atomTerm("b")
	return []impl.Term{
		a, structTerm("n", varTerm(0)), structTerm("n", a, intTerm(1), b), listTerm(), listTerm(a), listTerm(a, varTerm(1), listTerm(b)), listBefore(varTerm(0), a),
		doTerm(a), doTerm(andTerm(a, varTerm(0))), atomTerm("do"), structTerm("do", a, b), structTerm(`\+`, a, b), structTerm(",", a, b, a), structTerm(";", a), structTerm(".", a),
	}
}

// bodiesWith are those of which each of one list, and each pair of both, is a part.
func bodiesWith(list, others []impl.Term) []impl.Term {
	var all []impl.Term
	for _, one := range list {
		all = append(all, notTerm(one))
		for _, other := range others {
			all = append(all, andTerm(one, other), andTerm(other, one), orTerm(one, other), orTerm(other, one))
		}
	}
	return all
}

// Each body alone, and within each other one, on the left and on the right.
func TestGrammarOfEachBodyWithinEachOther(t *testing.T) {
	leaves := leafBodies()
	once := bodiesWith(leaves, leaves)
	twice := bodiesWith(once, leaves)
	some := []impl.Term{leaves[0], leaves[4], notTerm(leaves[0]), andTerm(leaves[1], leaves[4]), orTerm(leaves[3], leaves[7])}
	thrice := bodiesWith(bodiesWith(bodiesWith(some, some), some[:3]), some[2:4])
	for _, body := range slices.Concat(leaves, once, twice, thrice) {
		if !wantGrammarByRule(t, ruleTerm(structTerm("s", varTerm(2)), body)) {
			t.Fatalf("the body %s is refused", shownTo(body, 8))
		}
	}
	if len(twice) < 50000 || len(thrice) < 1000 {
		t.Errorf("%d and %d bodies within one another", len(twice), len(thrice))
	}
}

// The names of the chapter's bodies with another number of Kids are names as others are.
func TestGrammarOfBodiesWithOtherNumbersOfKids(t *testing.T) {
	a, x, y, z := atomTerm("a"), varTerm(0), varTerm(1), varTerm(2)
	others := []string{",/2", ";/2", `\+/1`, "do/1", "[]/0"}
	for _, name := range []string{",", ";", `\+`, "do", ".", "[]", "-->", ":-", "->", "=", "call", "catch", "n"} {
		for many := range 6 {
			pred := fmt.Sprintf("%s/%d", name, many)
			body := structTerm(name, slices.Repeat([]impl.Term{a}, many)...)
			if many == 0 {
				body = atomTerm(name)
			}
			told := behindKids(body, x, y)
			switch {
			case slices.Contains(others, pred):
			case many > 3 || slices.Contains(controlByRule, pred):
				wantNoBody(t, body, andTerm(body, a), andTerm(a, body), orTerm(body, a), orTerm(a, body), notTerm(body))
			default:
				wantBody(t, body, told)
				wantBody(t, orTerm(a, body), orTerm(structTerm("a", x, y), told))
				wantBody(t, andTerm(body, a), andTerm(behindKids(body, x, z), structTerm("a", z, y)))
				wantBody(t, notTerm(body), andTerm(notTerm(behindKids(body, x, z)), sameAs(x, y)))
			}
			wantBody(t, doTerm(body), andTerm(body, sameAs(x, y)))
		}
	}
}

func TestGrammarOfDoTakesItsGoalAsItIs(t *testing.T) {
	v, x, y, w := varTerm(7), varTerm(8), varTerm(9), varTerm(10)
	head, told := structTerm("s", v), structTerm("s", v, x, y)
	for _, goal := range []impl.Term{
		v, intTerm(0), intTerm(-9), atomTerm("true"), atomTerm("!"), atomTerm("[]"), atomTerm("call"), atomTerm("do"),
		structTerm("p", v, varTerm(2)), structTerm("p", v, v, v, v, v), structTerm("call", v), structTerm("->", atomTerm("a"), v), doTerm(v), notTerm(v),
		andTerm(v, intTerm(3)), orTerm(doTerm(atomTerm("a")), listTerm(v)), listTerm(v, v), ifTerm(v, v), ruleTerm(v, v),
	} {
		moved := andTerm(goal, sameAs(x, y))
		wantGrammar(t, ruleTerm(head, doTerm(goal)), ifTerm(told, moved))
		wantGrammar(t, ruleTerm(head, orTerm(doTerm(goal), doTerm(goal))), ifTerm(told, orTerm(moved, moved)))
		wantGrammar(t, ruleTerm(head, notTerm(doTerm(goal))), ifTerm(told, andTerm(notTerm(andTerm(goal, sameAs(x, w))), sameAs(x, y))))
	}
}

func TestGrammarOfLists(t *testing.T) {
	a, v, x, y, z := atomTerm("a"), varTerm(4), varTerm(5), varTerm(6), varTerm(7)
	head, told := structTerm("s", v), structTerm("s", v, x, y)
	for _, items := range [][]impl.Term{
		{}, {a}, {v}, {intTerm(0)}, {intTerm(-7), intTerm(impl.MaxInt)}, {a, v, a, v}, {listTerm()}, {listTerm(), listTerm()},
		{listTerm(a)}, {listTerm(v), listTerm(listTerm(a), v)}, {listBefore(v, a)}, {listBefore(a, v), a},
		{structTerm("f", v, a)}, {atomTerm("true"), atomTerm("!"), atomTerm(","), structTerm("call", v)}, {andTerm(a, v), notTerm(a), doTerm(a)},
		{structTerm(".", a)}, {structTerm(".", a, v, a)}, {structTerm("f", a, a, a, a, v)}, slices.Repeat([]impl.Term{a}, 36),
	} {
		list := listTerm(items...)
		whole := sameAs(x, listBefore(y, items...))
		wantGrammar(t, ruleTerm(head, list), ifTerm(told, whole))
		wantGrammar(t, ruleTerm(head, orTerm(list, list)), ifTerm(told, orTerm(whole, whole)))
		if len(items) < 30 {
			wantGrammar(t, ruleTerm(head, andTerm(list, list)), ifTerm(told, andTerm(sameAs(x, listBefore(z, items...)), sameAs(z, listBefore(y, items...)))))
			wantGrammar(t, ruleTerm(head, notTerm(list)), ifTerm(told, andTerm(notTerm(sameAs(x, listBefore(z, items...))), sameAs(x, y))))
		}
	}
}

// What does not end with the empty list is no list, but a struct of two.
func TestGrammarOfWhatIsNoListToItsEnd(t *testing.T) {
	a, v, x, y, z := atomTerm("a"), varTerm(4), varTerm(5), varTerm(6), varTerm(7)
	head, told := structTerm("s", v), structTerm("s", v, x, y)
	for _, end := range []impl.Term{v, varTerm(0), intTerm(0), intTerm(-1), a, atomTerm("."), atomTerm("[]]"), structTerm("[]", a), structTerm("f", listTerm()), structTerm(".", a), structTerm(".", a, a, listTerm())} {
		for _, items := range [][]impl.Term{{a}, {v}, {listTerm()}, {a, v, intTerm(2)}, {listTerm(a), listTerm(v)}} {
			list := listBefore(end, items...)
			wantGrammar(t, ruleTerm(head, list), ifTerm(told, behindKids(list, x, y)))
			wantGrammar(t, ruleTerm(head, andTerm(list, a)), ifTerm(told, andTerm(behindKids(list, x, z), structTerm("a", z, y))))
		}
	}
	for _, body := range []impl.Term{structTerm(".", listTerm(v)), structTerm(".", v, a, listTerm()), structTerm("[]", v), structTerm("[]", listTerm(), v)} {
		wantGrammar(t, ruleTerm(head, body), ifTerm(told, behindKids(body, x, y)))
	}
	wantNoGrammar(t, ruleTerm(head, structTerm(".", a, a, a, listTerm())), ruleTerm(head, structTerm("[]", a, a, a, a)))
}

func TestGrammarOfNumbersBehindTheGreatest(t *testing.T) {
	for _, rule := range []struct {
		head, body []int
		greatest   int
	}{
		{nil, nil, -1}, {[]int{0}, nil, 0}, {nil, []int{0}, 0}, {[]int{5}, nil, 5}, {nil, []int{5}, 5}, {[]int{0, 1}, []int{1, 0}, 1},
		{[]int{7, 7}, []int{7}, 7}, {[]int{9, 2}, []int{4, 2}, 9}, {[]int{2, 4}, []int{0, 90}, 90}, {[]int{99990}, []int{3}, 99990}, {[]int{3}, []int{99995}, 99995}, {[]int{99996, 0}, []int{0}, 99996},
	} {
		head, body := numbered("s", rule.head), numbered("b", rule.body)
		x, y, z := varTerm(rule.greatest+1), varTerm(rule.greatest+2), varTerm(rule.greatest+3)
		wantGrammar(t, ruleTerm(head, body), ifTerm(behindKids(head, x, y), behindKids(body, x, y)))
		wantGrammar(t, ruleTerm(head, andTerm(body, body)), ifTerm(behindKids(head, x, y), andTerm(behindKids(body, x, z), behindKids(body, z, y))))
		// TmVars of a goal, of a list, and of what is denied count as others do.
		wantGrammar(t, ruleTerm(head, doTerm(body)), ifTerm(behindKids(head, x, y), andTerm(body, sameAs(x, y))))
		wantGrammar(t, ruleTerm(head, listTerm(body)), ifTerm(behindKids(head, x, y), sameAs(x, listBefore(y, body))))
		wantGrammar(t, ruleTerm(head, notTerm(body)), ifTerm(behindKids(head, x, y), andTerm(notTerm(behindKids(body, x, z)), sameAs(x, y))))
	}
}

// numbered has TmVars of these numbers as its Kids.
func numbered(name string, numbers []int) impl.Term {
	if len(numbers) == 0 {
		return atomTerm(name)
	}
	t := structTerm(name)
	for _, n := range numbers {
		t.Kids = append(t.Kids, varTerm(n))
	}
	return t
}

// andRow has so many `,` in one another.
func andRow(many int, onLeft bool) impl.Term {
	t := atomTerm("a")
	for range many {
		if onLeft {
			t = andTerm(t, atomTerm("a"))
		} else {
			t = andTerm(atomTerm("a"), t)
		}
	}
	return t
}

func TestGrammarOfNumbersUpToTheGreatest(t *testing.T) {
	a := atomTerm("a")
	for many := range 8 {
		for _, body := range []impl.Term{andRow(many, true), andRow(many, false)} {
			for _, greatest := range []int{99990, 99991, 99992, 99993, 99994, 99995, 99996, 99997, 99998, 99999} {
				rule := ruleTerm(structTerm("s", varTerm(greatest)), body)
				if got := wantGrammarByRule(t, rule); got != (greatest+2+many <= 99999) {
					t.Errorf("with %d `,` behind %d: %t", many, greatest, got)
				}
			}
		}
	}
	x, y, z := varTerm(99998), varTerm(99999), varTerm(99999)
	wantGrammar(t, ruleTerm(structTerm("s", varTerm(99997)), listTerm(a)), ifTerm(structTerm("s", varTerm(99997), x, y), sameAs(x, listBefore(y, a))))
	wantGrammar(t, ruleTerm(a, structTerm("s", varTerm(99996), notTerm(a))), ifTerm(structTerm("a", varTerm(99997), varTerm(99998)), structTerm("s", varTerm(99996), notTerm(a), varTerm(99997), varTerm(99998))))
	wantGrammar(t, ruleTerm(structTerm("s", varTerm(99996)), notTerm(a)), ifTerm(structTerm("s", varTerm(99996), varTerm(99997), varTerm(99998)), andTerm(notTerm(structTerm("a", varTerm(99997), z)), sameAs(varTerm(99997), varTerm(99998)))))
	wantNoGrammar(t, ruleTerm(structTerm("s", varTerm(99997)), notTerm(a)), ruleTerm(structTerm("s", varTerm(99998)), listTerm()), ruleTerm(a, doTerm(varTerm(99998))), ruleTerm(a, listTerm(varTerm(99999))))
	wantNoGrammar(t, ruleTerm(structTerm("s", varTerm(100000)), a), ruleTerm(structTerm("s", varTerm(-1)), a))
}

// Those of a body are met ahead of those of its parts, and those of the left one ahead of those of the right one.
func TestGrammarOfNumbersFromLeftToRight(t *testing.T) {
	wantRule(t, "s --> a, b, c, d", "(s(_0,_1) :- (a(_0,_2) , (b(_2,_3) , (c(_3,_4) , d(_4,_1)))))")
	wantRule(t, "s --> (a, b), c", "(s(_0,_1) :- ((a(_0,_3) , b(_3,_2)) , c(_2,_1)))")
	wantRule(t, "s --> ((a, b), c), d", "(s(_0,_1) :- (((a(_0,_4) , b(_4,_3)) , c(_3,_2)) , d(_2,_1)))")
	wantRule(t, "s --> (a, b), (c, d)", "(s(_0,_1) :- ((a(_0,_3) , b(_3,_2)) , (c(_2,_4) , d(_4,_1))))")
	wantRule(t, "s --> (a, (b, c)), d", "(s(_0,_1) :- ((a(_0,_3) , (b(_3,_4) , c(_4,_2))) , d(_2,_1)))")
	wantRule(t, "s --> a, (b, c), d", "(s(_0,_1) :- (a(_0,_2) , ((b(_2,_4) , c(_4,_3)) , d(_3,_1))))")
	wantRule(t, "s --> a, b ; c, d", "(s(_0,_1) :- ((a(_0,_2) , b(_2,_1)) ; (c(_0,_3) , d(_3,_1))))")
	wantRule(t, "s --> (a ; b, c), d", "(s(_0,_1) :- ((a(_0,_2) ; (b(_0,_3) , c(_3,_2))) , d(_2,_1)))")
	wantRule(t, "s --> (a, b ; c), d", "(s(_0,_1) :- (((a(_0,_3) , b(_3,_2)) ; c(_0,_2)) , d(_2,_1)))")
	wantRule(t, "s --> \\+ (a, b)", "(s(_0,_1) :- (\\+((a(_0,_3) , b(_3,_2))) , (_0 = _1)))")
	wantRule(t, "s --> \\+ (a, b, c), d", "(s(_0,_1) :- ((\\+((a(_0,_4) , (b(_4,_5) , c(_5,_3)))) , (_0 = _2)) , d(_2,_1)))")
	wantRule(t, "s --> \\+ \\+ a", "(s(_0,_1) :- (\\+((\\+(a(_0,_3)) , (_0 = _2))) , (_0 = _1)))")
	wantRule(t, "s --> \\+ a, \\+ b", "(s(_0,_1) :- ((\\+(a(_0,_3)) , (_0 = _2)) , (\\+(b(_2,_4)) , (_2 = _1))))")
	wantRule(t, "s --> \\+ a ; \\+ b", "(s(_0,_1) :- ((\\+(a(_0,_2)) , (_0 = _1)) ; (\\+(b(_0,_3)) , (_0 = _1))))")
	wantRule(t, "s --> \\+ (a ; b)", "(s(_0,_1) :- (\\+((a(_0,_2) ; b(_0,_2))) , (_0 = _1)))")
	wantRule(t, "s(X) --> \\+ t(Y), u(X)", "(s(_0,_2,_3) :- ((\\+(t(_1,_2,_5)) , (_2 = _4)) , u(_0,_4,_3)))")
	// Goals and lists meet none.
	wantRule(t, "s --> do((a, b)), [(a, b)], f((a, b)), c", "(s(_0,_1) :- (((a , b) , (_0 = _2)) , ((_2 = [(a , b)|_3]) , (f((a , b),_3,_4) , c(_4,_1)))))")
}

func TestGrammarOfBodiesThatAreNone(t *testing.T) {
	a := atomTerm("a")
	none := []impl.Term{varTerm(0), varTerm(3), varTerm(99999), intTerm(0), intTerm(7), intTerm(-impl.MaxInt), structTerm("n", a, a, a, a), structTerm("n", a, a, a, a, a)}
	for _, body := range none {
		wantNoBody(t, body, andTerm(a, body), andTerm(body, a), orTerm(a, body), orTerm(body, a), notTerm(body), notTerm(notTerm(body)))
		for _, within := range bodiesWith(bodiesWith([]impl.Term{body}, []impl.Term{a, listTerm(a), doTerm(a)}), []impl.Term{listTerm(), a}) {
			wantNoBody(t, within)
		}
		wantNoGrammar(t, ruleTerm(body, body))
	}
	for _, text := range []string{"s --> X", "s(X) --> X", "s --> a, X", "s --> X, a", "s --> \\+ X", "s --> a ; 7", "s --> -7", "s --> a, (b ; (c, X)), d", "s --> !", "s --> a, !, b", "s --> a -> b ; c", "s --> call(a)", "s --> true", "s --> fail", "s --> X = Y", "s --> a, X is 3", "s --> write(a)", "s --> (a --> b)", "s --> (:- a)", "X --> a", "7 --> a", "(a, [b]) --> c", "\\+ a --> b", "(a ; b) --> c"} {
		wantNoGrammar(t, readOne(t, text))
	}
}

// Each predicate of Control, in the head and in the body; in a goal and in a list it may be.
func TestGrammarOfControlNonterminals(t *testing.T) {
	a, x, y, z := atomTerm("a"), varTerm(1), varTerm(2), varTerm(3)
	for _, pred := range controlByRule {
		term := headOf(pred)
		wantNoGrammar(t, ruleTerm(term, a), ruleTerm(term, term), ruleTerm(term, listTerm()), ruleTerm(term, doTerm(a)))
		if pred != ",/2" && pred != ";/2" && pred != `\+/1` {
			wantNoBody(t, term, andTerm(term, a), andTerm(a, term), orTerm(term, a), orTerm(a, term), notTerm(term), andTerm(a, orTerm(notTerm(term), a)))
		}
		head := structTerm("s", varTerm(0))
		told := behindKids(head, x, y)
		wantGrammar(t, ruleTerm(head, doTerm(term)), ifTerm(told, andTerm(term, sameAs(x, y))))
		wantGrammar(t, ruleTerm(head, listTerm(term)), ifTerm(told, sameAs(x, listBefore(y, term))))
		wantGrammar(t, ruleTerm(head, andTerm(structTerm("n", term), a)), ifTerm(told, andTerm(structTerm("n", term, x, z), structTerm("a", z, y))))
		wantGrammar(t, ruleTerm(structTerm("s", varTerm(0), term), a), ifTerm(structTerm("s", varTerm(0), term, x, y), structTerm("a", x, y)))
	}
}

// A head that has two more Kids may not be a Control one; a body may.
func TestGrammarOfHeadsThatBecomeControl(t *testing.T) {
	a, x, y := atomTerm("a"), varTerm(1), varTerm(2)
	became := 0
	for _, pred := range controlByRule {
		name, many, _ := strings.Cut(pred, "/")
		if many != "2" && many != "3" {
			continue
		}
		term := atomTerm(name)
		if many == "3" {
			term = structTerm(name, varTerm(0))
		}
		head := structTerm("s", varTerm(0))
		wantNoGrammar(t, ruleTerm(term, a), ruleTerm(term, listTerm(a)), ruleTerm(term, doTerm(a)), ruleTerm(term, term))
		if !slices.Contains(controlByRule, predByRule(term)) {
			wantGrammar(t, ruleTerm(head, term), ifTerm(behindKids(head, x, y), behindKids(term, x, y)))
			became++
		}
	}
	if became != 13 {
		t.Errorf("%d predicates become Control ones", became)
	}
	for _, name := range []string{"true", "fail", "!", "call", "throw", "var", "atom", "write", "assertz", "retract", "catch"} {
		for many := range 4 {
			head := structTerm(name, slices.Repeat([]impl.Term{a}, many)...)
			if many == 0 {
				head = atomTerm(name)
			}
			if headByRule(predByRule(head)) && headByRule(fmt.Sprintf("%s/%d", name, many+2)) {
				wantGrammar(t, ruleTerm(head, a), ifTerm(behindKids(head, varTerm(0), varTerm(1)), structTerm("a", varTerm(0), varTerm(1))))
			} else {
				wantNoGrammar(t, ruleTerm(head, a))
			}
		}
	}
}

func TestGrammarOfWhatIsNotRight(t *testing.T) {
	a := atomTerm("a")
	for _, odd := range slices.Concat(oddTerms(), deepOdds(), greatTerms()) {
		wantNoGrammar(t, odd, ruleTerm(a, odd), ruleTerm(odd, a), ruleTerm(a, doTerm(odd)), ruleTerm(a, listTerm(odd)), ruleTerm(a, andTerm(a, odd)), ruleTerm(structTerm("s", odd), a))
	}
	for _, odd := range []impl.Term{
		{Kind: impl.TmStruct, Name: "-->", Num: 1, Kids: []impl.Term{a, a}},
		{Kind: impl.TmAtom, Name: "-->", Kids: []impl.Term{a, a}},
		{Kind: impl.TmVar, Name: "-->", Kids: []impl.Term{a, a}},
		{Kind: 0, Name: "-->", Kids: []impl.Term{a, a}},
		{Kind: 5, Name: "-->", Kids: []impl.Term{a, a}},
		{Kind: impl.TmStruct, Name: "-->"},
		{Kind: impl.TmStruct, Name: "-->", Kids: []impl.Term{a, a, a, a, a, a}},
	} {
		wantNoGrammar(t, odd, ruleTerm(odd, a), ruleTerm(a, odd))
	}
	for _, name := range []string{",", ";", `\+`, "do", ".", "[]"} {
		for _, odd := range []impl.Term{{Kind: impl.TmStruct, Name: name}, {Kind: impl.TmAtom, Name: name, Kids: []impl.Term{a, a}}, {Kind: impl.TmAtom, Name: name, Num: 1}, {Kind: impl.TmStruct, Name: name, Num: 1, Kids: []impl.Term{a, a}}, structTerm(name, a, a, a, a, a, a)} {
			wantNoBody(t, odd, doTerm(odd), listTerm(odd), notTerm(odd), andTerm(odd, a))
		}
	}
}

// around tells how much larger and deeper a clause is than the term that its rule is made of, when that stands in it once.
type around struct {
	what       string
	rule       func(impl.Term) impl.Term
	size, deep int
}

func TestGrammarOfWhatIsAsLargeOrDeepAsMayBe(t *testing.T) {
	a := atomTerm("a")
	n := func(term impl.Term) impl.Term { return structTerm("n", term) }
	for _, w := range []around{
		{"in a head", func(g impl.Term) impl.Term { return ruleTerm(n(g), a) }, 7, 2},
		{"in a nonterminal", func(g impl.Term) impl.Term { return ruleTerm(a, n(g)) }, 7, 2},
		{"in a goal", func(g impl.Term) impl.Term { return ruleTerm(a, doTerm(g)) }, 8, 2},
		{"in a list", func(g impl.Term) impl.Term { return ruleTerm(a, listTerm(g)) }, 8, 3},
		{"second in a list", func(g impl.Term) impl.Term { return ruleTerm(a, listTerm(a, g)) }, 10, 4},
		{"in a denied one", func(g impl.Term) impl.Term { return ruleTerm(a, notTerm(n(g))) }, 12, 4},
		{"in a denied goal", func(g impl.Term) impl.Term { return ruleTerm(a, notTerm(doTerm(g))) }, 13, 4},
		{"in the first of two", func(g impl.Term) impl.Term { return ruleTerm(a, andTerm(n(g), a)) }, 11, 3},
		{"in the second of two", func(g impl.Term) impl.Term { return ruleTerm(a, andTerm(a, n(g))) }, 11, 3},
		{"in one of either", func(g impl.Term) impl.Term { return ruleTerm(a, orTerm(n(g), a)) }, 11, 3},
		{"in the other one", func(g impl.Term) impl.Term { return ruleTerm(a, orTerm(listTerm(), n(g))) }, 11, 3},
	} {
		for size := 380; size <= 400; size++ {
			if got := wantGrammarByRule(t, w.rule(wideTerm(size, a))); got != (size+w.size <= impl.MaxSize) {
				t.Errorf("%d %s: %t", size, w.what, got)
			}
		}
		for deep := 30; deep <= 41; deep++ {
			if got := wantGrammarByRule(t, w.rule(chainTerm(deep, intTerm(1)))); got != (deep+w.deep <= impl.MaxDeep) {
				t.Errorf("%d deep %s: %t", deep, w.what, got)
			}
		}
	}
	// Both rules are right, and the clause of the second one has one term too many.
	for _, size := range []int{393, 394} {
		rule := ruleTerm(a, n(wideTerm(size, a)))
		if _, ok := impl.GrammarOf(rule); ok != (size == 393) || !impl.TermOk(rule) {
			t.Errorf("%d terms in a nonterminal: %t", size, ok)
		}
	}
}

func TestGrammarOfBodiesDeepInOneAnother(t *testing.T) {
	a := atomTerm("a")
	deepest := func(most, upTo int, body func(int) impl.Term, what string) {
		t.Helper()
		for many := range upTo + 1 {
			rule := ruleTerm(a, body(many))
			if got := wantGrammarByRule(t, rule); got != (many <= most) || !impl.TermOk(rule) {
				t.Errorf("%d %s: %t", many, what, got)
			}
		}
	}
	deepest(37, 38, func(many int) impl.Term { return andRow(many, true) }, "`,` on the left")
	deepest(37, 38, func(many int) impl.Term { return andRow(many, false) }, "`,` on the right")
	deepest(37, 38, func(many int) impl.Term { return listTerm(slices.Repeat([]impl.Term{a}, many)...) }, "items of a list")
	deepest(18, 38, func(many int) impl.Term { return deepBy(many+1, notTerm) }, "`\\+`")
	deepest(37, 38, func(many int) impl.Term {
		return deepBy(many+1, func(t impl.Term) impl.Term { return orTerm(t, atomTerm("a")) })
	}, "`;`")
	deepest(37, 37, func(many int) impl.Term {
		return doTerm(deepBy(many+1, func(t impl.Term) impl.Term { return doTerm(t) }))
	}, "`do`")
}

// drawnBody is of the chapter's bodies; sloppy ones are none now and then.
func drawnBody(r *rand.Rand, deep int, sloppy bool) impl.Term {
	part := func() impl.Term { return drawnBody(r, deep-1, sloppy) }
	k := r.Intn(14)
	if deep <= 1 {
		k = r.Intn(8)
	}
	switch {
	case sloppy && r.Intn(8) == 0:
		return drawnHead(r)
	case k < 3:
		return drawnNonterminal(r)
	case k < 5:
		items := make([]impl.Term, r.Intn(4))
		for i := range items {
			items[i] = drawnSigned(r, 2)
		}
		return listTerm(items...)
	case k < 6:
		return doTerm(drawnSigned(r, 3))
	case k < 8:
		return []impl.Term{structTerm(",", numbered("a", nil)), atomTerm("do"), structTerm(".", varTerm(r.Intn(5)), atomTerm("a")), structTerm("do", atomTerm("a"), varTerm(1))}[r.Intn(4)]
	case k < 11:
		return andTerm(part(), part())
	case k < 13:
		return orTerm(part(), part())
	}
	return notTerm(part())
}

func drawnNonterminal(r *rand.Rand) impl.Term {
	name := []string{"s", "noun", "[]", "X"}[r.Intn(4)]
	kids := make([]impl.Term, r.Intn(4))
	for i := range kids {
		kids[i] = drawnSigned(r, 2)
	}
	if len(kids) == 0 {
		return atomTerm(name)
	}
	return structTerm(name, kids...)
}

// drawnRule is a rule, or, when it is sloppy, sometimes none.
func drawnRule(r *rand.Rand, sloppy bool) impl.Term {
	head, body := drawnNonterminal(r), drawnBody(r, 1+r.Intn(5), sloppy)
	switch {
	case sloppy && r.Intn(10) == 0:
		head = drawnHead(r)
	case sloppy && r.Intn(20) == 0:
		return structTerm([]string{"-->", ":-", ",", "-->-->"}[r.Intn(4)], []impl.Term{head, body, head}[:1+r.Intn(3)]...)
	case r.Intn(10) == 0:
		head = structTerm("s", varTerm([]int{99999, 99997, 99995, 99990, 400}[r.Intn(5)]))
	}
	return ruleTerm(head, body)
}

func TestGrammarOfIsTheDocumentsRule(t *testing.T) {
	for _, term := range rightTerms() {
		wantGrammarByRule(t, ruleTerm(term, atomTerm("a")))
		wantGrammarByRule(t, ruleTerm(atomTerm("a"), term))
		wantGrammarByRule(t, ruleTerm(atomTerm("a"), doTerm(term)))
		wantGrammarByRule(t, ruleTerm(atomTerm("a"), listTerm(term, term)))
	}
	r := rand.New(rand.NewSource(90))
	told, not := 0, 0
	for range 40000 {
		if wantGrammarByRule(t, drawnRule(r, true)) {
			told++
		} else {
			not++
		}
		wantGrammarByRule(t, drawnClauseTerm(r))
	}
	if told < 10000 || not < 5000 {
		t.Errorf("%d rules became clauses, %d did not", told, not)
	}
}

// The promise: what a rule becomes is a clause, of the head's predicate with two Kids more, and with new TmVars of its own, one for each place.
func TestARuleBecomesAClause(t *testing.T) {
	r := rand.New(rand.NewSource(91))
	became := 0
	for range 20000 {
		rule := drawnRule(r, false)
		told, ok := impl.GrammarOf(rule)
		if !ok {
			continue
		}
		became++
		c, ok := impl.ClauseOf(told, "f")
		if !ok || !equalTerms(impl.ClauseTerm(c), told) || !impl.DbOk(impl.Db{Clauses: []impl.Clause{c}}) {
			t.Fatalf("%s became %s, which is no clause", shownTo(rule, 8), shownTo(told, 8))
		}
		head := rule.Kids[0]
		if want := fmt.Sprintf("%s/%d", head.Name, len(head.Kids)+2); impl.PredOf(c.Head) != want {
			t.Fatalf("%s became a clause of %s", shownTo(rule, 8), impl.PredOf(c.Head))
		}
		greatest := slices.Max(append(impl.VarsOf(rule), -1))
		var more []int
		for _, number := range impl.VarsOf(told) {
			if number > greatest {
				more = append(more, number)
			}
		}
		slices.Sort(more)
		for i, number := range more {
			if number != greatest+1+i {
				t.Fatalf("the new TmVars of %s are %d", shownTo(told, 8), more)
			}
		}
		if want := 2 + len(placesByRule(rule.Kids[1], "")); len(more) != want {
			t.Fatalf("%d new TmVars in %s; want %d", len(more), shownTo(told, 8), want)
		}
	}
	if became < 10000 {
		t.Errorf("only %d rules became clauses", became)
	}
}

// leftBy are the words that a body of words alone may leave, in order.
func leftBy(body impl.Term, words []impl.Term) [][]impl.Term {
	items, isList := itemsByRule(body)
	switch {
	case isOf(body, ",", 2):
		var all [][]impl.Term
		for _, left := range leftBy(body.Kids[0], words) {
			all = append(all, leftBy(body.Kids[1], left)...)
		}
		return all
	case isOf(body, ";", 2):
		return slices.Concat(leftBy(body.Kids[0], words), leftBy(body.Kids[1], words))
	case isOf(body, `\+`, 1) && len(leftBy(body.Kids[0], words)) > 0:
		return nil
	case isOf(body, `\+`, 1):
		return [][]impl.Term{words}
	case !isList || len(items) > len(words) || !slices.EqualFunc(items, words[:len(items)], equalTerms):
		return nil
	}
	return [][]impl.Term{words[len(items):]}
}

// soBy tells with what the TmVars of a goal may stand for it is so, in order.
func soBy(goal impl.Term, b impl.Binds) []impl.Binds {
	switch {
	case isOf(goal, ",", 2):
		var all []impl.Binds
		for _, so := range soBy(goal.Kids[0], b) {
			all = append(all, soBy(goal.Kids[1], so)...)
		}
		return all
	case isOf(goal, ";", 2):
		return append(soBy(goal.Kids[0], b), soBy(goal.Kids[1], b)...)
	case isOf(goal, `\+`, 1) && len(soBy(goal.Kids[0], b)) > 0:
		return nil
	case isOf(goal, `\+`, 1):
		return []impl.Binds{b}
	}
	if so, ok := impl.Unify(b, goal.Kids[0], goal.Kids[1]); ok {
		return []impl.Binds{so}
	}
	return nil
}

// drawnWords is a body of words alone.
func drawnWords(r *rand.Rand, deep int) impl.Term {
	k := r.Intn(8)
	if deep <= 1 {
		k = 0
	}
	switch {
	case k < 2:
		items := make([]impl.Term, r.Intn(3))
		for i := range items {
			items[i] = atomTerm([]string{"a", "b"}[r.Intn(2)])
		}
		return listTerm(items...)
	case k < 5:
		return andTerm(drawnWords(r, deep-1), drawnWords(r, deep-1))
	case k < 7:
		return orTerm(drawnWords(r, deep-1), drawnWords(r, deep-1))
	}
	return notTerm(drawnWords(r, deep-1))
}

// What the clause's body says of S0 and S is what the rule says of words.
func TestAClauseGoesThroughTheWordsOfItsRule(t *testing.T) {
	r := rand.New(rand.NewSource(92))
	left, none := 0, 0
	for range 5000 {
		body := drawnWords(r, 1+r.Intn(4))
		told, ok := impl.GrammarOf(ruleTerm(atomTerm("s"), body))
		if !ok {
			t.Fatalf("%s is refused", shownTo(body, 8))
		}
		words := make([]impl.Term, r.Intn(5))
		for i := range words {
			words[i] = atomTerm([]string{"a", "b"}[r.Intn(2)])
		}
		b, _ := impl.Unify(impl.BindsNew(100), varTerm(0), listTerm(words...))
		var got []string
		for _, so := range soBy(told.Kids[1], b) {
			rest, _ := impl.Filled(so, varTerm(1))
			got = append(got, impl.WriteTerm(rest))
		}
		var want []string
		for _, rest := range leftBy(body, words) {
			want = append(want, impl.WriteTerm(listTerm(rest...)))
		}
		if !slices.Equal(got, want) {
			t.Fatalf("%s leaves %q of %s; want %q", impl.WriteTerm(told), got, impl.WriteTerm(listTerm(words...)), want)
		}
		if len(want) > 0 {
			left++
		} else {
			none++
		}
	}
	if left < 500 || none < 500 {
		t.Errorf("%d go through words, %d don't", left, none)
	}
}

// sharedRule has the same lists in many places.
func sharedRule() impl.Term {
	shared := []impl.Term{varTerm(1), structTerm("g", atomTerm("a"), varTerm(2))}
	p, list := structTerm("p", shared...), structTerm(".", shared[1], listTerm(shared...))
	part := andTerm(p, orTerm(list, doTerm(p)))
	twice := []impl.Term{part, part}
	return ruleTerm(p, andTerm(structTerm(";", twice...), orTerm(notTerm(structTerm(",", twice...)), andTerm(list, listTerm()))))
}

func TestGrammarAnswersNewMemory(t *testing.T) {
	rule := sharedRule()
	before := deepCopy(rule)
	one, ok := impl.GrammarOf(rule)
	other, _ := impl.GrammarOf(rule)
	if want, _ := grammarByRule(rule); !ok || !equalTerms(one, want) {
		t.Fatalf("GrammarOf(%s) = %s, %t", shownTo(rule, 8), shownTo(one, 8), ok)
	}
	// In the rule some lists stand in many places, in an answer none does.
	wantNoListTwice(t, "two answers", one, other)
	answer := deepCopy(one)
	spoilTerm(other)
	if !equalTerms(one, answer) || !equalTerms(rule, before) {
		t.Error("an answer shares memory with another one, or with the rule")
	}
	spoilTerm(rule)
	if !equalTerms(one, answer) {
		t.Error("an answer changes with the rule")
	}
	impl.GrammarOf(before)
	impl.GrammarOf(ruleTerm(atomTerm("s"), andRow(30, true)))
	if !equalTerms(one, answer) {
		t.Error("an answer changes with later calls")
	}
}

func TestGrammarSharesNoListsOfAnyRule(t *testing.T) {
	r := rand.New(rand.NewSource(93))
	for range 3000 {
		rule := drawnRule(r, false)
		body := rule.Kids[1]
		rule = ruleTerm(rule.Kids[0], []impl.Term{body, andTerm(body, body), orTerm(body, notTerm(body))}[r.Intn(3)])
		got, ok := impl.GrammarOf(rule)
		if !ok {
			continue
		}
		wantNoListTwice(t, shownTo(got, 8), got)
		before := deepCopy(rule)
		spoilTerm(got)
		if !equalTerms(rule, before) {
			t.Fatalf("what became of %s shares memory with it", shownTo(before, 8))
		}
	}
}

func TestGrammarAnswersNewNames(t *testing.T) {
	name := strings.Repeat("n", 12)
	named := structTerm(name, atomTerm(name), structTerm("g", structTerm(name, varTerm(0))))
	plain, list := atomTerm(name), listTerm(named, atomTerm(name))
	rule := ruleTerm(named, andTerm(orTerm(named, list), andTerm(notTerm(plain), doTerm(named))))
	got, ok := impl.GrammarOf(rule)
	if !ok {
		t.Fatal("it is refused")
	}
	names := 0
	for _, terms := range listsIn(got, 1000) {
		for _, term := range terms {
			if term.Name != name {
				continue
			}
			names++
			if shares(name, term.Name) {
				t.Error("a Name lies in what was asked")
			}
		}
	}
	if names != 14 {
		t.Errorf("%d names were looked at", names)
	}
}

func TestRulesAreNotWrittenInto(t *testing.T) {
	r := rand.New(rand.NewSource(94))
	rules := []impl.Term{sharedRule(), ruleTerm(atomTerm("s"), listTerm(atomTerm("a"))), ruleTerm(varTerm(0), varTerm(1)), atomTerm("a")}
	for range 5000 {
		rules = append(rules, drawnRule(r, true))
	}
	for _, rule := range slices.Concat(rules, rightTerms(), oddTerms(), deepOdds()) {
		asked := withSpare(rule)
		impl.GrammarOf(asked)
		if !equalTerms(asked, rule) || !spareUntouched(asked) {
			t.Fatalf("%s was written into", shownTo(rule, 8))
		}
	}
}

// No call keeps anything for a later one: the numbers of new TmVars begin anew.
func TestGrammarHangsOnWhatIsAskedAlone(t *testing.T) {
	r := rand.New(rand.NewSource(95))
	var rules []impl.Term
	var told []string
	for range 200 {
		rule := drawnRule(r, true)
		got, ok := impl.GrammarOf(rule)
		rules, told = append(rules, rule), append(told, fmt.Sprint(ok, impl.WriteTerm(got)))
	}
	for range 1000 {
		i := r.Intn(len(rules))
		got, ok := impl.GrammarOf(rules[i])
		if again := fmt.Sprint(ok, impl.WriteTerm(got)); again != told[i] {
			t.Fatalf("told %q, then %q", told[i], again)
		}
	}
}

// An empty list is as nil.
func TestGrammarTakesNilForEmpty(t *testing.T) {
	s, none, v := atomTerm("s"), atomTerm("[]"), varTerm(2)
	s.Kids, none.Kids, v.Kids = []impl.Term{}, []impl.Term{}, []impl.Term{}
	wantRuleOf := func(rule impl.Term, want string) {
		t.Helper()
		if got, ok := impl.GrammarOf(rule); !ok || impl.WriteTerm(got) != want {
			t.Errorf("GrammarOf(%s) is written %q, %t; want %q", shown(rule), impl.WriteTerm(got), ok, want)
		}
	}
	wantRuleOf(ruleTerm(s, s), "(s(_0,_1) :- s(_0,_1))")
	wantRuleOf(ruleTerm(s, none), "(s(_0,_1) :- (_0 = _1))")
	wantRuleOf(ruleTerm(s, structTerm(".", v, none)), "(s(_3,_4) :- (_3 = [_2|_4]))")
	wantRuleOf(ruleTerm(none, doTerm(v)), "('[]'(_3,_4) :- (_2 , (_3 = _4)))")
	wantNoGrammar(t, ruleTerm(s, v), ruleTerm(v, s))
}
