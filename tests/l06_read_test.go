package tests

import (
	"fmt"
	"maps"
	"math"
	"math/rand"
	"slices"
	"strings"
	"testing"

	"loop.example/g00469/impl"
)

// The document's signs once more, each with Prio, Left and Right.

var infixByRule = map[string][3]int{
	":-": {1200, 1199, 1199}, "-->": {1200, 1199, 1199}, ";": {1100, 1099, 1100}, "->": {1050, 1049, 1050}, ",": {1000, 999, 1000},
	"=": {700, 699, 699}, `\=`: {700, 699, 699}, "==": {700, 699, 699}, "is": {700, 699, 699}, "<": {700, 699, 699}, "=:=": {700, 699, 699},
	"+": {500, 500, 499}, "-": {500, 500, 499}, "*": {400, 400, 399}, "//": {400, 400, 399},
}

var prefixByRule = map[string][3]int{":-": {1200, 0, 1199}, `\+`: {900, 0, 900}, "-": {200, 0, 200}}

func namesIn(table map[string][3]int) []string { return slices.Sorted(maps.Keys(table)) }

// signsByName are the infix and prefix signs as they are written: a `,` that is an SgAtom stands between two `'`.
func signsByName() map[string]string {
	all := map[string]string{",": "','"}
	for _, name := range append(namesIn(infixByRule), namesIn(prefixByRule)...) {
		if name != "," {
			all[name] = name
		}
	}
	return all
}

func listTerm(items ...impl.Term) impl.Term { return listBefore(atomTerm("[]"), items...) }

func listBefore(rest impl.Term, items ...impl.Term) impl.Term {
	for _, item := range slices.Backward(items) {
		rest = structTerm(".", item, rest)
	}
	return rest
}

// wantRead has the text read as one term, by each of the functions.
func wantRead(t *testing.T, text string, want impl.Term, names ...string) {
	t.Helper()
	got, told, ok := impl.ReadTerm(text)
	if !ok || !equalTerms(got, want) || !slices.Equal(told, names) {
		t.Errorf("ReadTerm(%q) = %s, %q, %t; want %s, %q, true", text, shown(got), told, ok, shown(want), names)
	}
	signs, _ := impl.SignsOf(text)
	wantReadSigns(t, signs, 0, len(signs), want, names...)
	all, bad := impl.ReadAll(text)
	if len(all) != 1 || bad != 0 || !equalTerms(all[0], want) {
		t.Errorf("ReadAll(%q): %d terms, %d ended false", text, len(all), bad)
	}
}

// wantUnread is for texts that have no SgEnd but the one at their end, or none.
func wantUnread(t *testing.T, texts ...string) {
	t.Helper()
	for _, text := range texts {
		wantNoTerm(t, text)
		signs, _ := impl.SignsOf(text)
		wantNoSigns(t, signs, 0, len(signs))
		if all, bad := impl.ReadAll(text); len(all) != 0 || bad != 1 {
			t.Errorf("ReadAll(%q): %d terms, %d ended false", text, len(all), bad)
		}
	}
}

func wantNoTerm(t *testing.T, text string) {
	t.Helper()
	if got, names, ok := impl.ReadTerm(text); ok || len(names) != 0 || !equalTerms(got, impl.Term{}) {
		t.Errorf("ReadTerm(%q) = %s, %q, %t; want nothing, false", text, shown(got), names, ok)
	}
}

func wantReadSigns(t *testing.T, signs []impl.Sign, at, behind int, want impl.Term, names ...string) {
	t.Helper()
	got, told, place, ok := impl.ReadSigns(signs, at)
	if !ok || place != behind || !equalTerms(got, want) || !slices.Equal(told, names) {
		t.Errorf("ReadSigns(%s, %d) = %s, %q, %d, %t; want %s, %q, %d, true", shownSigns(signs[:min(len(signs), 50)]), at, shown(got), told, place, ok, shown(want), names, behind)
	}
}

func wantNoSigns(t *testing.T, signs []impl.Sign, at, behind int) {
	t.Helper()
	got, names, place, ok := impl.ReadSigns(signs, at)
	if ok || len(names) != 0 || place != behind || !equalTerms(got, impl.Term{}) {
		t.Errorf("ReadSigns(%s, %d) = %s, %q, %d, %t; want nothing, %d, false", shownSigns(signs[:min(len(signs), 50)]), at, shown(got), names, place, ok, behind)
	}
}

func TestInfixAndPrefixSigns(t *testing.T) {
	names := append(namesIn(infixByRule), namesIn(prefixByRule)...)
	names = append(names, "", " ", "a", "isx", "IS", "is ", " is", ":", "-:", ":-:", "--", "->>", "=.", "=..", "=<", ">", ">=", "/", "///", "**", "|", "(", ")", "[]", ".", "!", "?-", "\\", `\\=`, `\==`, ",,", "++", "\x00", "-\x00", strings.Repeat("-", 1000))
	for _, table := range []struct {
		of   func(string) (impl.Op, bool)
		rule map[string][3]int
		what string
	}{{impl.InfixOf, infixByRule, "InfixOf"}, {impl.PrefixOf, prefixByRule, "PrefixOf"}} {
		for _, name := range names {
			rule, is := table.rule[name]
			want := impl.Op{}
			if is {
				want = impl.Op{Name: name, Prio: rule[0], Left: rule[1], Right: rule[2]}
			}
			asked := strings.Clone(name)
			got, ok := table.of(asked)
			if ok != is || got != want {
				t.Errorf("%s(%q) = %v, %t; want %v, %t", table.what, name, got, ok, want, is)
			}
			if ok && shares(asked, got.Name) {
				t.Errorf("%s(%q) answers what it was asked with", table.what, name)
			}
		}
	}
}

func TestReadAClause(t *testing.T) {
	x, y := varTerm(0), varTerm(1)
	wantRead(t, "p(X, [a|Y]) :- \\+ q(X), X = -3 + 2 * Y ; ! . % no more",
		structTerm(":-",
			structTerm("p", x, listBefore(y, atomTerm("a"))),
			structTerm(";",
				structTerm(",", structTerm(`\+`, structTerm("q", x)), structTerm("=", x, structTerm("+", intTerm(-3), structTerm("*", intTerm(2), y)))),
				atomTerm("!"))),
		"X", "Y")
}

func TestReadNamesWithTerms(t *testing.T) {
	a, b := atomTerm("a"), atomTerm("b")
	wantRead(t, "f(a).", structTerm("f", a))
	wantRead(t, "f( a ) .", structTerm("f", a))
	wantRead(t, "f(a,b).", structTerm("f", a, b))
	wantRead(t, "f(a,b,a).", structTerm("f", a, b, a))
	wantRead(t, "f(a,b,a,b).", structTerm("f", a, b, a, b))
	wantRead(t, "f(a,b,a,b,a).", structTerm("f", a, b, a, b, a))
	wantRead(t, "f(%)\na%,\n)%.\n.", structTerm("f", a))
	wantRead(t, "f(g(a),h(b,g(a))).", structTerm("f", structTerm("g", a), structTerm("h", b, structTerm("g", a))))
	wantRead(t, "'F'(a).", structTerm("F", a))
	wantRead(t, "!(a).", structTerm("!", a))
	wantRead(t, "'[]'(a).", structTerm("[]", a))
	wantRead(t, ".(a,b).", structTerm(".", a, b))
	wantRead(t, "'('(a).", structTerm("(", a))
	wantRead(t, "f(.).", structTerm("f", atomTerm(".")))
	wantRead(t, "f((a,b)).", structTerm("f", structTerm(",", a, b)))
	wantRead(t, "f((a,b),(a:-b)).", structTerm("f", structTerm(",", a, b), structTerm(":-", a, b)))
	wantUnread(t, "f(a,b,a,b,a,b).", "f(a,b,a,b,a,b,a).", "f().", "f( ).", "f(", "f(a", "f(a .", "f(a,b .", "f(a,).", "f(,a).", "f(a,,b).", "f(a b).", "f(a|b).", "f(a].", "f(a)).", "f((a).", "f(a)(b).", "f (a).", "f(a) b.", "X(a).", "1(a).", "[](a).", "f(a.)")
}

func TestReadSignsThatAreNames(t *testing.T) {
	a, b := atomTerm("a"), atomTerm("b")
	for name, text := range signsByName() {
		wantRead(t, text+"(a).", structTerm(name, a))
		wantRead(t, text+"(a,b).", structTerm(name, a, b))
		wantRead(t, text+"(a,b,a,b,a).", structTerm(name, a, b, a, b, a))
		wantRead(t, "f("+text+"(a,b)).", structTerm("f", structTerm(name, a, b)))
		wantRead(t, text+"(a,b) = "+text+"(b).", structTerm("=", structTerm(name, a, b), structTerm(name, b)))
		// The brackets are those behind a name: they begin no term of 1200, and a sign does not stand alone in them.
		wantUnread(t, text+"(a,b,a,b,a,b).", text+"().", text+"(a:-b).", text+"(a;b).", text+"("+text+").", text+"(a", text+"(a .")
		// One that is Near is no infix sign.
		wantUnread(t, "a "+text+"(b).", "a "+text+"(a,b).", "a "+text+"((b)).")
	}
	wantRead(t, "a,(b).", structTerm(",", a, b))
	wantRead(t, "a,(b,a).", structTerm(",", a, structTerm(",", b, a)))
	wantRead(t, "a= (b).", structTerm("=", a, b))
	wantRead(t, "a=%\n(b).", structTerm("=", a, b))
}

func TestReadSignsAloneInBrackets(t *testing.T) {
	for name, text := range signsByName() {
		alone := atomTerm(name)
		wantRead(t, "("+text+") .", alone)
		wantRead(t, "( "+text+" ).", alone)
		wantRead(t, "(("+text+")).", alone)
		wantRead(t, "f(("+text+")).", structTerm("f", alone))
		wantRead(t, "[("+text+")|("+text+")].", listBefore(alone, alone))
		wantRead(t, "("+text+") = ("+text+").", structTerm("=", alone, alone))
		wantRead(t, "- ("+text+").", structTerm("-", alone))
		wantRead(t, text+"(("+text+")).", structTerm(name, alone))
		wantUnread(t, text+" .", "f("+text+").", "f(a,"+text+").", "f("+text+",a).", "["+text+"].", "[a|"+text+"].", text+" = a.", "a = "+text+" .", "("+text+" "+text+").", "("+text+",a).", "("+text, "("+text+" .", "("+text+"].")
	}
	for _, name := range []string{"a", "!", "[]", ".", "zQ_9", "=..", "|", "("} {
		wantRead(t, "('"+name+"').", atomTerm(name))
		wantRead(t, "(('"+name+"')).", atomTerm(name))
		wantRead(t, "'"+name+"' .", atomTerm(name))
	}
	wantUnread(t, "(,).", "(|).", "().", "(().", "()).", "(.", "( .", "(a.", "(a .", "a).", "(\").", "(a", "(a b).", "(a].", "[a).")
}

func TestReadTermsInBrackets(t *testing.T) {
	a, b := atomTerm("a"), atomTerm("b")
	wantRead(t, "(a).", a)
	wantRead(t, "(X).", varTerm(0), "X")
	wantRead(t, "(1).", intTerm(1))
	wantRead(t, "(-1).", intTerm(-1))
	wantRead(t, "([]).", atomTerm("[]"))
	wantRead(t, "(a:-b).", structTerm(":-", a, b))
	wantRead(t, "(:-b).", structTerm(":-", b))
	wantRead(t, "((a,b)).", structTerm(",", a, b))
	wantRead(t, "(a,b),a.", structTerm(",", structTerm(",", a, b), a))
	wantRead(t, "(a=b)=a.", structTerm("=", structTerm("=", a, b), a))
	wantRead(t, "a= (b=a).", structTerm("=", a, structTerm("=", b, a)))
	wantRead(t, "(a:-b):-a.", structTerm(":-", structTerm(":-", a, b), a))
	wantRead(t, "a- (b-a).", structTerm("-", a, structTerm("-", b, a)))
	wantUnread(t, "a=(b=a).", "(a)(b).", "(a b).", "(a,).", "((a,b).", "(a,b)).", "(a|b).")
}

func TestReadLists(t *testing.T) {
	a, b, c, x := atomTerm("a"), atomTerm("b"), atomTerm("c"), varTerm(0)
	wantRead(t, "[].", atomTerm("[]"))
	wantRead(t, "[ ].", atomTerm("[]"))
	wantRead(t, "[%]\n].", atomTerm("[]"))
	wantRead(t, "'[]'.", atomTerm("[]"))
	wantRead(t, "[a].", structTerm(".", a, atomTerm("[]")))
	wantRead(t, "[a,b].", structTerm(".", a, structTerm(".", b, atomTerm("[]"))))
	wantRead(t, "[a,b,c,a,b,c,X].", listTerm(a, b, c, a, b, c, x), "X")
	wantRead(t, "[a|X].", structTerm(".", a, x), "X")
	wantRead(t, "[a,b|c].", structTerm(".", a, structTerm(".", b, c)))
	wantRead(t, "[a|[]].", listTerm(a))
	wantRead(t, "[a|[b]].", listTerm(a, b))
	wantRead(t, "[a|[b|c]].", listBefore(c, a, b))
	wantRead(t, "[[]].", listTerm(atomTerm("[]")))
	wantRead(t, "[[a],[[b]]].", listTerm(listTerm(a), listTerm(listTerm(b))))
	wantRead(t, "[(a,b)].", listTerm(structTerm(",", a, b)))
	wantRead(t, "[a=b,\\+c|a-b].", listBefore(structTerm("-", a, b), structTerm("=", a, b), structTerm(`\+`, c)))
	wantRead(t, "[(a:-b)|(a;b)].", listBefore(structTerm(";", a, b), structTerm(":-", a, b)))
	wantRead(t, "[-1,- 1,a-1].", listTerm(intTerm(-1), structTerm("-", intTerm(1)), structTerm("-", a, intTerm(1))))
	wantRead(t, "[] = [].", structTerm("=", atomTerm("[]"), atomTerm("[]")))
	wantRead(t, "[a]-[b].", structTerm("-", listTerm(a), listTerm(b)))
	wantUnread(t, "[", "]", "[.", "[ .", "] .", "[a", "[a .", "[a.", "[,].", "[a,].", "[,a].", "[a,,b].", "[a b].", "[|].", "[|a].", "[a|].", "[a|b,c].", "[a|b|c].", "[a||b].", "[a,|b].", "[a|b .", "[a)].", "[a).", "[a]].", "[[a].",
		"[a:-b].", "[a;b].", "[a->b].", "[a-->b].", "[:-a].", "[a|b;c].", "[a|b:-c].", "[a|:-b].", "a|b.", "(a|b).", "f(a|b).", "[a '|' b].", "[a ',' b].", "[a '=' b.", "[](a).", "[a](b).")
}

func TestReadNumbersAndNames(t *testing.T) {
	wantRead(t, "0.", intTerm(0))
	wantRead(t, "007 .", intTerm(7))
	wantRead(t, "999999999.", intTerm(impl.MaxInt))
	wantRead(t, "-999999999.", intTerm(-impl.MaxInt))
	wantRead(t, "-0.", intTerm(0))
	wantRead(t, "-007.", intTerm(-7))
	wantRead(t, "a.", atomTerm("a"))
	wantRead(t, "abcdefghijklmnopqrst.", atomTerm("abcdefghijklmnopqrst"))
	wantRead(t, "! .", atomTerm("!"))
	wantRead(t, "=.. .", atomTerm("=.."))
	wantRead(t, "+++ .", atomTerm("+++"))
	wantRead(t, "> .", atomTerm(">"))
	wantRead(t, "'a-b'.", atomTerm("a-b"))
	wantRead(t, "'%'.", atomTerm("%"))
	wantRead(t, "X.", varTerm(0), "X")
	wantUnread(t, "1000000000.", "-1000000000.", "abcdefghijklmnopqrstu.", "'a b'.", "''.", "\"a\".", "{}.", "a\x00.", "1 2.", "X Y.", "a b.", "1a.", "1.5.", "'a.", ">.", ", .", "| .", "\xc3\xa9.")
}

func TestReadNumbersBelowNought(t *testing.T) {
	a, one, below := atomTerm("a"), intTerm(1), intTerm(-1)
	minus := func(kids ...impl.Term) impl.Term { return structTerm("-", kids...) }
	for text, want := range map[string]impl.Term{
		"-1": below, "- 1": minus(one), "-  1": minus(one), "-\t1": minus(one), "-%\n1": minus(one), "-(1)": minus(one), "- (1)": minus(one),
		"-(-1)": minus(below), "- -1": minus(below), "- - 1": minus(minus(one)), "- (-1)": minus(below), "-(1,1)": minus(one, one),
		"a -1": minus(a, one), "a - 1": minus(a, one), "a-1": minus(a, one), "a- 1": minus(a, one), "a - -1": minus(a, below), "a- -1": minus(a, below), "a - - 1": minus(a, minus(one)),
		"1-1": minus(one, one), "1 -1": minus(one, one), "-1-1": minus(below, one), "-1 -1": minus(below, one), "-1 - -1": minus(below, below), "- 1 - 1": minus(minus(one), one), "-a-1": minus(minus(a), one),
		"[]-1": minus(atomTerm("[]"), one), "[a]-1": minus(listTerm(a), one), "f(a)-1": minus(structTerm("f", a), one), "(a)-1": minus(a, one),
		// One written between two quotes takes three bytes, and signs don't tell that from two blanks: a number is never just behind it.
		"'-'1": minus(one), "'-' 1": minus(one), "'-'(1)": minus(one), "a '-'1": minus(a, one), "a'-'1": minus(a, one),
		"f(-1)": structTerm("f", below), "f(- 1)": structTerm("f", minus(one)), "f(a,-1)": structTerm("f", a, below), "[-1|-1]": listBefore(below, below),
		"-1 = -1": structTerm("=", below, below), "-1*1": structTerm("*", below, one), "- 1*1": structTerm("*", minus(one), one), "1* -1": structTerm("*", one, below), "a:- -1": structTerm(":-", a, below),
		`\+ -1`: structTerm(`\+`, below), ":- -1": structTerm(":-", below), "(-1)": below, "(- 1)": minus(one),
	} {
		wantRead(t, text+".", want)
		wantRead(t, "("+text+") .", want)
	}
	wantRead(t, "-X.", minus(varTerm(0)), "X")
	wantRead(t, "X-1.", minus(varTerm(0), one), "X")
	wantUnread(t, "--1.", "a--1.", "---1.", "1*-1.", "-1 1.", "-1(1).", "a -(1).", "1 -(-1).", `\+-1.`, "-.", "- .", "-", "-1", "+1.", "+ 1.", "-'1.", "-\".")
}

func TestReadPrefixSigns(t *testing.T) {
	a, b := atomTerm("a"), atomTerm("b")
	no := func(kids ...impl.Term) impl.Term { return structTerm(`\+`, kids...) }
	do := func(kids ...impl.Term) impl.Term { return structTerm(":-", kids...) }
	minus := func(kids ...impl.Term) impl.Term { return structTerm("-", kids...) }
	for text, want := range map[string]impl.Term{
		":- a": do(a), ":-a": do(a), ":-(a)": do(a), ":- (a)": do(a), `\+ a`: no(a), `\+a`: no(a), "- a": minus(a), "-a": minus(a), "-[]": minus(atomTerm("[]")), "-[a]": minus(listTerm(a)), "-f(a)": minus(structTerm("f", a)),
		`\+ \+ a`: no(no(a)), "- - a": minus(minus(a)), `\+ - a`: no(minus(a)), `:- \+ a`: do(no(a)), ":- (:- a)": do(do(a)), `- (\+ a)`: minus(no(a)), `\+ (:- a)`: no(do(a)),
		`\+ (a,b)`: no(structTerm(",", a, b)), `\+(a,b)`: no(a, b), ":- (a:-b)": do(do(a, b)),
		"f(- a)": structTerm("f", minus(a)), `f(\+ a)`: structTerm("f", no(a)), "f((:- a))": structTerm("f", do(a)), `[\+ a|- a]`: listBefore(minus(a), no(a)), "[(:- a)]": listTerm(do(a)), "(:- a)": do(a),
		"a = - b": structTerm("=", a, minus(b)), `a = (\+ b)`: structTerm("=", a, no(b)), `a , \+ b`: structTerm(",", a, no(b)), `a :- \+ b`: do(a, no(b)), "a - - b": minus(a, minus(b)), "a * - b": structTerm("*", a, minus(b)),
	} {
		wantRead(t, text+".", want)
	}
	wantUnread(t, ":- .", `\+ .`, "- .", ":- '-'.", ":- :- a.", `\+ :- a.`, "- :- a.", `- \+ a.`, "f(:- a).", "f(a,:- a).", "[:- a].", "[a,:- a].", "[a|:- a].", `a = \+ b.`, "a = :- b.", `a - \+ b.`, `a * \+ b.`, "a :- :- b.", "a , :- b.", "a ; :- b.", ":- a :- b.", ":- a --> b.", ":- a b.", `\+ a b.`, "- a b.", ":- ,.", `\+ (.`, "- ).", "- |.", "+ a.", "= a.", "is a.")
}

// How signs of one priority stand in a row, by what they are used for.
var rowsByPrio = map[int]string{1200: "none", 1100: "right", 1050: "right", 1000: "right", 700: "none", 500: "left", 400: "left"}

func TestReadTwoInfixSigns(t *testing.T) {
	a, b, c := atomTerm("a"), atomTerm("b"), atomTerm("c")
	for first, one := range infixByRule {
		for second, other := range infixByRule {
			text := "a " + first + " b " + second + " c"
			onLeft := structTerm(second, structTerm(first, a, b), c)
			onRight := structTerm(first, a, structTerm(second, b, c))
			greatest := max(one[0], other[0])
			switch {
			case one[0] < other[0] || one[0] == other[0] && rowsByPrio[one[0]] == "left":
				wantReadWithin(t, text, onLeft, greatest)
			case one[0] > other[0] || rowsByPrio[one[0]] == "right":
				wantReadWithin(t, text, onRight, greatest)
			default:
				wantUnread(t, text+".", "("+text+").", "f(("+text+")).")
			}
			wantRead(t, "(a "+first+" b) "+second+" c.", onLeft)
			wantRead(t, "a "+first+" (b "+second+" c).", onRight)
		}
	}
}

// wantReadWithin also has the text behind a name and in a list, where nothing may be of more than 999, and a `,` parts.
func wantReadWithin(t *testing.T, text string, want impl.Term, prio int) {
	t.Helper()
	wantRead(t, text+" .", want)
	wantRead(t, "("+text+").", want)
	wantRead(t, "f(("+text+")).", structTerm("f", want))
	wantRead(t, "[("+text+")|("+text+")].", listBefore(want, want))
	if prio <= 999 {
		wantRead(t, "f("+text+").", structTerm("f", want))
		wantRead(t, "[a,"+text+"|"+text+"].", listBefore(want, atomTerm("a"), want))
	}
	if prio > 999 && !strings.Contains(text, ",") {
		wantUnread(t, "f("+text+").", "f(a,"+text+").", "["+text+"].", "[a|"+text+"].")
	}
}

func TestReadOneInfixSign(t *testing.T) {
	a, b := atomTerm("a"), atomTerm("b")
	for name, rule := range infixByRule {
		want := structTerm(name, a, b)
		wantReadWithin(t, "a "+name+" b", want, rule[0])
		wantRead(t, "a '"+name+"' b.", want)
		wantRead(t, "a"+"%\n"+name+"%\nb.", want)
		wantRead(t, "1 "+name+" [].", structTerm(name, intTerm(1), atomTerm("[]")))
		wantRead(t, "f(a) "+name+" X.", structTerm(name, structTerm("f", a), varTerm(0)), "X")
		wantUnread(t, "a "+name+" .", "a "+name, name+" b "+name+" .", "a "+name+" "+name+" b "+name+" .", "(a "+name+").", "a "+name+" ).", "a "+name+" |.", "a "+name+" b b.", "a a "+name+" b.")
	}
	wantRead(t, "f(a , b).", structTerm("f", a, b))
	wantRead(t, "[a , b].", listTerm(a, b))
	wantRead(t, "f((a , b), a).", structTerm("f", structTerm(",", a, b), a))
	wantUnread(t, "f(a ',' b).", "[a ',' b].", "f(a '(' b).")
	for _, none := range []string{"|", "(", ")", "[", "]", "{", "\"", "`", "\x00", "'", "!", "a", "X", "1", "[]", "=..", ">", "/", "\\", "\\+", ":", "'|'", "'('", "\xff"} {
		wantUnread(t, "a "+none+" b.", "f(a "+none+" b .", "(a "+none+" b .")
	}
}

func TestReadPrefixAndInfixSigns(t *testing.T) {
	a, b := atomTerm("a"), atomTerm("b")
	for prefix, one := range prefixByRule {
		for infix, other := range infixByRule {
			text := prefix + " a " + infix + " b"
			switch {
			case other[0] < one[0]:
				wantReadWithin(t, text, structTerm(prefix, structTerm(infix, a, b)), one[0])
			case other[0] > one[0]:
				wantReadWithin(t, text, structTerm(infix, structTerm(prefix, a), b), other[0])
			default:
				wantUnread(t, text+".", "("+text+").")
			}
			text = "a " + infix + " " + prefix + " b"
			if one[0] < other[0] {
				wantReadWithin(t, text, structTerm(infix, a, structTerm(prefix, b)), other[0])
			} else {
				wantUnread(t, text+".", "("+text+").")
			}
			wantRead(t, "a "+infix+" ("+prefix+" b).", structTerm(infix, a, structTerm(prefix, b)))
			wantRead(t, prefix+" (a "+infix+" b).", structTerm(prefix, structTerm(infix, a, b)))
		}
	}
}

func TestReadRows(t *testing.T) {
	a := atomTerm("a")
	for name, rule := range infixByRule {
		if rowsByPrio[rule[0]] == "none" {
			continue
		}
		for _, many := range []int{3, 10, 40} {
			want := a
			for range many - 1 {
				if rowsByPrio[rule[0]] == "left" {
					want = structTerm(name, want, a)
				} else {
					want = structTerm(name, a, want)
				}
			}
			wantRead(t, strings.Repeat("a "+name+" ", many-1)+"a.", want)
		}
		wantUnread(t, strings.Repeat("a "+name+" ", 40)+"a.")
	}
}

func TestReadTellsNames(t *testing.T) {
	x, y, z, u := varTerm(0), varTerm(1), varTerm(2), varTerm(3)
	wantRead(t, "f(X,X).", structTerm("f", x, x), "X")
	wantRead(t, "f(X,Y).", structTerm("f", x, y), "X", "Y")
	wantRead(t, "f(Y,X,Y).", structTerm("f", x, y, x), "Y", "X")
	wantRead(t, "_.", x, "_")
	wantRead(t, "f(_,_).", structTerm("f", x, y), "_", "_")
	wantRead(t, "f(_,X,_,X,_).", structTerm("f", x, y, z, y, u), "_", "X", "_", "_")
	wantRead(t, "f(_a,_a,_A,__,__).", structTerm("f", x, x, y, z, z), "_a", "_A", "__")
	wantRead(t, "f(_1,_01,_1).", structTerm("f", x, y, x), "_1", "_01")
	wantRead(t, "f(X,x,'X').", structTerm("f", x, atomTerm("x"), atomTerm("X")), "X")
	wantRead(t, "f(ABCDEFGHIJKLMNOPQRST).", structTerm("f", x), "ABCDEFGHIJKLMNOPQRST")
	wantRead(t, "p(X):-q(Y,X),r(Z,Y).", structTerm(":-", structTerm("p", x), structTerm(",", structTerm("q", y, x), structTerm("r", z, y))), "X", "Y", "Z")
	wantRead(t, "[X,Y|X] = Z - X.", structTerm("=", listBefore(x, x, y), structTerm("-", z, x)), "X", "Y", "Z")
	wantRead(t, "- X - _.", structTerm("-", structTerm("-", x), y), "X", "_")
	wantRead(t, "f(a).", structTerm("f", atomTerm("a")))
	wantUnread(t, "f(X,Y.", "X Y.", "f(X,).")
}

func TestReadBeginsEachTermAnew(t *testing.T) {
	all, bad := impl.ReadAll("f(X,Y). g(Y). _ = Y. h(X")
	want := []impl.Term{structTerm("f", varTerm(0), varTerm(1)), structTerm("g", varTerm(0)), structTerm("=", varTerm(0), varTerm(1))}
	if bad != 1 || !slices.EqualFunc(all, want, equalTerms) {
		t.Errorf("%d terms, %d ended false", len(all), bad)
	}
}

func TestReadSignsAtEveryPlace(t *testing.T) {
	signs, _ := impl.SignsOf("a. b c. X = Y. d")
	wantReadSigns(t, signs, 0, 2, atomTerm("a"))
	wantNoSigns(t, signs, 1, 2)
	wantNoSigns(t, signs, 2, 5)
	wantReadSigns(t, signs, 3, 5, atomTerm("c"))
	wantNoSigns(t, signs, 4, 5)
	wantReadSigns(t, signs, 5, 9, structTerm("=", varTerm(0), varTerm(1)), "X", "Y")
	wantNoSigns(t, signs, 6, 9)
	wantReadSigns(t, signs, 7, 9, varTerm(0), "Y")
	wantNoSigns(t, signs, 8, 9)
	for _, at := range []int{9, 10, 11, 1000, math.MaxInt - 1, math.MaxInt} {
		wantNoSigns(t, signs, at, 10)
	}
	// From a place below 0 on the next SgEnd is the first one.
	for _, at := range []int{-1, -2, -10, -1000, math.MinInt + 1, math.MinInt} {
		wantNoSigns(t, signs, at, 2)
		wantNoSigns(t, signs[2:4], at, 2)
		wantNoSigns(t, signs[1:], at, 1)
	}
	for _, at := range []int{math.MinInt, -1, 0, 1, 2, math.MaxInt} {
		wantNoSigns(t, nil, at, 0)
		wantNoSigns(t, []impl.Sign{}, at, 0)
	}
	for at := -1; at < 4; at++ {
		wantNoSigns(t, signs[5:8], at, 3)
		wantNoSigns(t, signs[9:], at, 1)
	}
	ends := []impl.Sign{endAt(0), endAt(2), endAt(4)}
	wantNoSigns(t, ends, -1, 1)
	wantNoSigns(t, ends, 0, 1)
	wantNoSigns(t, ends, 1, 2)
	wantNoSigns(t, ends, 2, 3)
	wantNoSigns(t, ends, 3, 3)
	wantNoSigns(t, ends, 4, 3)
}

func TestReadSignsInTheMiddleOfATerm(t *testing.T) {
	signs, _ := impl.SignsOf("f(X,[Y|Z])-1. b.")
	list := listBefore(varTerm(2), varTerm(1))
	wantReadSigns(t, signs, 0, 13, structTerm("-", structTerm("f", varTerm(0), list), intTerm(1)), "X", "Y", "Z")
	wantReadSigns(t, signs, 1, 13, structTerm("-", structTerm(",", varTerm(0), list), intTerm(1)), "X", "Y", "Z")
	for at := 2; at < 10; at++ {
		wantNoSigns(t, signs, at, 13)
	}
	wantReadSigns(t, signs, 10, 13, intTerm(-1))
	wantReadSigns(t, signs, 11, 13, intTerm(1))
	wantNoSigns(t, signs, 12, 13)
	wantReadSigns(t, signs, 13, 15, atomTerm("b"))
	wantNoSigns(t, signs, 14, 15)
}

func TestReadSignsOfOddSigns(t *testing.T) {
	open, shut, end := markAt(1, "("), markAt(3, ")"), endAt(9)
	a := atomAt(0, "a")
	for _, kind := range []int{0, 7, -1, 100, math.MaxInt, math.MinInt} {
		odd := impl.Sign{Kind: kind, Text: "a", Num: 1}
		wantNoSigns(t, []impl.Sign{odd, end}, 0, 2)
		wantNoSigns(t, []impl.Sign{a, odd, end}, 0, 3)
		wantNoSigns(t, []impl.Sign{open, odd, shut, end}, 0, 4)
		odd.Text = "="
		wantNoSigns(t, []impl.Sign{a, odd, a, end}, 0, 4)
		odd.Text = "("
		wantNoSigns(t, []impl.Sign{odd, a, shut, end}, 0, 4)
	}
	for _, name := range []string{"", " ", "a b", "a'", "\"", "a\x00", "\x7f", "\xc3\xa9", strings.Repeat("a", 21), strings.Repeat("a", 100000)} {
		odd := atomAt(0, name)
		wantNoSigns(t, []impl.Sign{odd, end}, 0, 2)
		wantNoSigns(t, []impl.Sign{open, odd, shut, end}, 0, 4)
		wantNoSigns(t, []impl.Sign{near(odd), open, a, shut, end}, 0, 5)
		wantNoSigns(t, []impl.Sign{a, odd, a, end}, 0, 4)
		wantNoSigns(t, []impl.Sign{near(a), open, odd, shut, end}, 0, 5)
	}
	for _, text := range []string{"", "a", "-", "=", "((", ":-", "[]", ".", "\\+", "X", "1", " ,"} {
		odd := markAt(0, text)
		wantNoSigns(t, []impl.Sign{odd, end}, 0, 2)
		wantNoSigns(t, []impl.Sign{odd, a, end}, 0, 3)
		wantNoSigns(t, []impl.Sign{a, odd, a, end}, 0, 4)
		wantNoSigns(t, []impl.Sign{open, odd, shut, end}, 0, 4)
	}
	for _, mark := range []string{"(", ")", "[", "]", "|"} {
		wantReadSigns(t, []impl.Sign{atomAt(0, mark), end}, 0, 2, atomTerm(mark))
		wantReadSigns(t, []impl.Sign{near(atomAt(0, mark)), open, a, shut, end}, 0, 5, structTerm(mark, atomTerm("a")))
		wantNoSigns(t, []impl.Sign{badAt(0, mark), a, end}, 0, 3)
	}
	wantReadSigns(t, []impl.Sign{open, atomAt(2, ","), shut, end}, 0, 4, atomTerm(","))
	// What a sign has beside what is asked of its Kind is not looked at.
	wantReadSigns(t, []impl.Sign{{Kind: impl.SgInt, Text: "x", Num: 4, At: -7, Near: true}, {Kind: impl.SgEnd, Num: 5, At: -9}}, 0, 2, intTerm(4))
	wantReadSigns(t, []impl.Sign{{Kind: impl.SgVar, Text: "X", Num: 4, Near: true}, {Kind: impl.SgMark, Text: ",", Num: 2, Near: true}, {Kind: impl.SgAtom, Text: "b", Num: 3}, {Kind: impl.SgEnd, Text: "end"}}, 0, 4, structTerm(",", varTerm(0), atomTerm("b")), "X")
	for _, name := range []string{"", "x", "_ ", strings.Repeat("V", 30), "\xff"} {
		wantReadSigns(t, []impl.Sign{varAt(0, name), atomAt(1, "="), varAt(2, name), end}, 0, 4, structTerm("=", varTerm(0), varTerm(0)), name)
	}
}

func TestReadSignsOfOddNumbers(t *testing.T) {
	end := endAt(9)
	for _, n := range []int{0, 1, impl.MaxInt, -1, -impl.MaxInt} {
		wantReadSigns(t, []impl.Sign{intAt(0, n), end}, 0, 2, intTerm(n))
		wantReadSigns(t, []impl.Sign{atomAt(0, "-"), intAt(1, n), end}, 0, 3, intTerm(-n))
		wantReadSigns(t, []impl.Sign{atomAt(0, "-"), intAt(2, n), end}, 0, 3, structTerm("-", intTerm(n)))
	}
	for _, n := range []int{impl.MaxInt + 1, -impl.MaxInt - 1, math.MaxInt, math.MinInt, math.MinInt + 1} {
		wantNoSigns(t, []impl.Sign{intAt(0, n), end}, 0, 2)
		wantNoSigns(t, []impl.Sign{atomAt(0, "-"), intAt(1, n), end}, 0, 3)
		wantNoSigns(t, []impl.Sign{atomAt(0, "-"), intAt(2, n), end}, 0, 3)
	}
	for _, at := range []int{0, 1, -1, -2, -100, math.MaxInt - 1, math.MinInt, math.MinInt + 1} {
		wantReadSigns(t, []impl.Sign{atomAt(at, "-"), intAt(at+1, 7), end}, 0, 3, intTerm(-7))
	}
	for _, ats := range [][2]int{{0, 0}, {0, 2}, {0, 3}, {5, 4}, {1, 0}, {-1, 1}, {1, -1}, {0, math.MaxInt}, {0, math.MinInt}, {math.MaxInt, math.MinInt}, {math.MinInt, math.MaxInt}, {math.MaxInt, math.MaxInt}, {math.MaxInt, 0}, {math.MinInt, 0}} {
		wantReadSigns(t, []impl.Sign{atomAt(ats[0], "-"), intAt(ats[1], 7), end}, 0, 3, structTerm("-", intTerm(7)))
	}
	for _, sign := range []impl.Sign{varAt(1, "X"), atomAt(1, "a"), markAt(1, "["), markAt(1, "]")} {
		sign.Num = 7
		if got, _, _, ok := impl.ReadSigns([]impl.Sign{atomAt(0, "-"), sign, end}, 0); ok && got.Kind == impl.TmInt {
			t.Errorf("%s is read as a number", shownSigns([]impl.Sign{sign}))
		}
	}
	wantNoSigns(t, []impl.Sign{markAt(0, "-"), intAt(1, 7), end}, 0, 3)
	wantNoSigns(t, []impl.Sign{atomAt(0, "+"), intAt(1, 7), end}, 0, 3)
}

func TestReadSignsOfOddNears(t *testing.T) {
	a, open, shut, end := atomAt(0, "a"), markAt(1, "("), markAt(3, ")"), endAt(9)
	// What is Near wants its bracket, and is nothing else without it.
	for _, name := range []string{"a", "-", ":-", "\\+", "=", "is", "[]"} {
		wantNoSigns(t, []impl.Sign{near(atomAt(0, name)), end}, 0, 2)
		wantNoSigns(t, []impl.Sign{near(atomAt(0, name)), a, end}, 0, 3)
		wantNoSigns(t, []impl.Sign{near(atomAt(0, name)), intAt(1, 1), end}, 0, 3)
		wantNoSigns(t, []impl.Sign{near(atomAt(0, name)), markAt(1, "["), markAt(2, "]"), end}, 0, 4)
		wantNoSigns(t, []impl.Sign{a, near(atomAt(0, name)), a, end}, 0, 4)
		wantNoSigns(t, []impl.Sign{near(atomAt(0, name)), atomAt(1, "("), a, shut, end}, 0, 5)
		// But alone in brackets it is an SgAtom as any other one.
		wantReadSigns(t, []impl.Sign{open, near(atomAt(0, name)), shut, end}, 0, 4, atomTerm(name))
	}
	wantNoSigns(t, []impl.Sign{a, open, a, shut, end}, 0, 5)
	wantReadSigns(t, []impl.Sign{atomAt(0, "-"), open, a, shut, end}, 0, 5, structTerm("-", atomTerm("a")))
	wantReadSigns(t, []impl.Sign{a, atomAt(0, "-"), open, a, shut, end}, 0, 6, structTerm("-", atomTerm("a"), atomTerm("a")))
	wantReadSigns(t, []impl.Sign{near(open), near(open), a, near(shut), near(shut), near(end)}, 0, 6, atomTerm("a"))
}

// Each begins one more term in the one around it; so many of them in one another are right.
var openers = []struct {
	ahead, behind string
	most          int
}{{"(", ")", 30}, {"[", "]", 30}, {"[a|", "]", 30}, {"[a,", "]", 15}, {"f(", ")", 30}, {"f(a,", ")", 30}, {"-(", ")", 30}, {"- ", "", 30}, {`\+ `, "", 30}, {":- ", "", 1}, {"a = ", "", 1}, {"a , ", "", 30}, {"a ; ", "", 30}, {"a -> ", "", 30}, {"a - ", "", 1}}

// within has a text in so many of the first, and these in so many of the other one.
func within(text string, first, other string, behindFirst, behindOther string, many, more int) string {
	text = strings.Repeat(first, many) + text + strings.Repeat(behindFirst, many)
	return strings.Repeat(other, more) + text + strings.Repeat(behindOther, more)
}

func reads(text string) bool {
	_, _, ok := impl.ReadTerm(text + " .")
	return ok
}

func TestReadBeginsTermsInOneAnother(t *testing.T) {
	for brackets := range 140 {
		around := func(s string) string { return strings.Repeat("(", brackets) + s + strings.Repeat(")", brackets) }
		for text, most := range map[string]int{"X": 129, "1": 129, "-1": 129, "[]": 129, "a": 130, "-": 130, "f(X)": 128, "f(a)": 128, "[a]": 128, "- a": 128, "a = a": 128, "a , a": 128, "a - a - a": 128, "f((a))": 128, "f((X))": 127, "f(a,(X),a)": 127, "a , a , a": 127, "f(f(a))": 127} {
			if got := reads(around(text)); got != (brackets <= most) && (text != "-" || brackets > 0) {
				t.Errorf("%q in %d brackets: %t", text, brackets, got)
			}
		}
		// Terms that have ended don't count: the left one stands in the whole, the right one begins in it.
		for text, most := range map[string]int{around("X") + " = a": 129, "a = " + around("X"): 128, around("X") + " = " + around("X"): 128, "f(a," + around("X") + "," + around("X") + ")": 128, "[" + around("X") + "," + around("X") + "|" + around("X") + "]": 128, around("X") + " - " + around("X") + " - " + around("X"): 128, "- " + around("X"): 128} {
			if got := reads(text); got != (brackets <= most) {
				t.Errorf("%q: %t", text, got)
			}
		}
	}
}

func TestReadBeginsTermsByEachOpener(t *testing.T) {
	for _, o := range openers {
		for _, many := range []int{1, o.most / 2, o.most} {
			// The whole, and one for each opener.
			most := 129 - many
			for brackets, want := range map[int]bool{most - 1: true, most: true, most + 1: false} {
				inside := reads(within("X", "(", o.ahead, ")", o.behind, brackets, many))
				outside := reads(within("X", o.ahead, "(", o.behind, ")", many, brackets))
				if many > 0 && (inside != want || outside != want) {
					t.Errorf("%d of %q around %d brackets: %t, in them: %t", many, o.ahead, brackets, inside, outside)
				}
			}
		}
	}
}

func TestReadVeryDeep(t *testing.T) {
	for _, many := range []int{130, 131, 200, 1000, 200000} {
		for _, signs := range [][]impl.Sign{
			{markAt(0, "(")}, {markAt(0, "[")}, {near(atomAt(0, "f")), markAt(1, "(")}, {atomAt(0, "-")}, {atomAt(0, `\+`)}, {atomAt(0, "a"), markAt(1, ",")}, {atomAt(0, "a"), atomAt(1, ";")}, {atomAt(0, "a"), atomAt(1, "-")}, {markAt(0, "["), atomAt(1, "a"), markAt(2, "|")},
		} {
			list := slices.Repeat(signs, many)
			wantNoSigns(t, list, 0, len(list))
			list = append(list, atomAt(0, "a"), endAt(1))
			wantNoSigns(t, list, 0, len(list))
		}
	}
}

func TestReadWhatIsTooDeep(t *testing.T) {
	for _, c := range []struct {
		ahead, behind string
		deep          int // of the least one
	}{{"f(", ")", 1}, {"[", "]", 1}, {"- ", "", 1}, {"a , ", "", 1}, {`\+ `, "", 1}, {"[a|", "]", 1}, {"f(a,", ")", 1}} {
		most := impl.MaxDeep - c.deep
		for _, many := range []int{most - 1, most, most + 1, most + 2} {
			text := strings.Repeat(c.ahead, many) + "a" + strings.Repeat(c.behind, many)
			if got := reads(text); got != (many <= most) {
				t.Errorf("%d of %q in one another: %t", many, c.ahead, got)
			}
		}
	}
	// A list of 39 has 39 `.` in one another, and `[]` in the last one.
	for many, want := range map[int]bool{1: true, 38: true, 39: true, 40: false, 41: false, 200: false} {
		if got := reads("[" + strings.Repeat("a,", many-1) + "a]"); got != want {
			t.Errorf("a list of %d: %t", many, got)
		}
		if got := reads(strings.Repeat("a-", many) + "a"); got != want {
			t.Errorf("a row of %d: %t", many, got)
		}
	}
}

// plainly writes terms without signs that stand between, or ahead.
func plainly(t impl.Term) string {
	switch {
	case t.Kind == impl.TmVar:
		return "V" + impl.Decimal(t.Num)
	case t.Kind == impl.TmInt:
		return impl.Decimal(t.Num)
	case len(t.Kids) == 0:
		return t.Name
	}
	var kids []string
	for _, k := range t.Kids {
		kids = append(kids, plainly(k))
	}
	return t.Name + "(" + strings.Join(kids, ",") + ")"
}

func TestReadWhatIsTooLarge(t *testing.T) {
	for _, last := range []impl.Term{atomTerm("a"), intTerm(7), varTerm(0)} {
		var names []string
		if last.Kind == impl.TmVar {
			names = []string{"V0"}
		}
		for _, size := range []int{1, 100, impl.MaxSize - 1, impl.MaxSize} {
			term := wideTerm(size, last)
			wantRead(t, plainly(term)+" .", term, names...)
		}
		for _, size := range []int{impl.MaxSize + 1, impl.MaxSize + 2, 600} {
			wantUnread(t, plainly(wideTerm(size, last))+" .")
		}
	}
}

func TestReadManyNames(t *testing.T) {
	names := func(many int) ([]impl.Sign, []string) {
		var signs []impl.Sign
		var told []string
		for i := range many {
			told = append(told, "V"+impl.Decimal(i))
			signs = append(signs, varAt(i, told[i]), atomAt(i, "-"))
		}
		return append(signs[:len(signs)-1], endAt(many)), told
	}
	signs, told := names(40)
	want := varTerm(0)
	for i := range 39 {
		want = structTerm("-", want, varTerm(i+1))
	}
	wantReadSigns(t, signs, 0, len(signs), want, told...)
	for _, many := range []int{41, 401, 99999, 100000, 100001, 300000} {
		signs, _ = names(many)
		wantNoSigns(t, signs, 0, len(signs))
		listed := append([]impl.Sign{markAt(0, "[")}, signs[:len(signs)-1]...)
		for i := range listed {
			if listed[i].Text == "-" {
				listed[i] = markAt(0, ",")
			}
		}
		listed = append(listed, markAt(0, "]"), endAt(0))
		wantNoSigns(t, listed, 0, len(listed))
	}
	// As many as a right term has room for: five in each but one for the terms around them.
	var parts []string
	told = nil
	for i := range 5 * 5 * 5 {
		told = append(told, "V"+impl.Decimal(i))
		parts = append(parts, told[i])
	}
	for len(parts) > 1 {
		var wider []string
		for five := range slices.Chunk(parts, 5) {
			wider = append(wider, "f("+strings.Join(five, ",")+")")
		}
		parts = wider
	}
	if _, got, ok := impl.ReadTerm(parts[0] + "."); !ok || !slices.Equal(got, told) {
		t.Errorf("%d names are told, %t", len(got), ok)
	}
}

func TestReadTermWantsOneTerm(t *testing.T) {
	a := atomTerm("a")
	for _, text := range []string{"a.", "a .", " a.", "\n\ta .\n\t ", "a. % b.", "a.%", "% b.\na.", "a % b\n.", "a.\n% b.\n", "a." + strings.Repeat(" ", impl.MaxSource-2), "a.%" + strings.Repeat("b", impl.MaxSource-3), strings.Repeat("\n", impl.MaxSource-2) + "a."} {
		wantRead(t, text, a)
	}
	for _, text := range []string{
		"", " ", "\n\t ", "%", "% a.", "a", "a ", "a%.", "a..", "a.b", ".", ". .", "a. .", ". a.", "a. b.", "a. b", "a. (", "a. a.", "a. b c.", "a b. c.", "a.%\n.", "a. \"",
		"a." + strings.Repeat(" ", impl.MaxSource-1), strings.Repeat(" ", impl.MaxSource+1), "a.%" + strings.Repeat("b", impl.MaxSource), strings.Repeat("a. ", impl.MaxSource),
	} {
		wantNoTerm(t, text)
	}
}

func TestReadAllTellsEachTerm(t *testing.T) {
	a, b, c, d := atomTerm("a"), atomTerm("b"), atomTerm("c"), atomTerm("d")
	for _, x := range []struct {
		text string
		want []impl.Term
		bad  int
	}{
		{"", nil, 0}, {" \n\t", nil, 0}, {"% a.", nil, 0}, {".", nil, 1}, {". .", nil, 2}, {". . %.\n.", nil, 3},
		{"a.", []impl.Term{a}, 0}, {"a", nil, 1}, {"a b", nil, 1}, {"a. b.", []impl.Term{a, b}, 0}, {"a. b", []impl.Term{a}, 1}, {"a. b c. d.", []impl.Term{a, d}, 1}, {"a b. c. d a. b. \" .", []impl.Term{c, b}, 3},
		{"a. . b.", []impl.Term{a, b}, 1}, {"(a. b.", []impl.Term{b}, 1}, {"(a. b). c.", []impl.Term{c}, 2}, {"a. 'b. c'. d.", []impl.Term{a, d}, 2}, {"a.b. c.", []impl.Term{c}, 1}, {"a. a. a.", []impl.Term{a, a, a}, 0},
		{"a. % b.\nc.%\nd.", []impl.Term{a, c, d}, 0}, {"a. [b", []impl.Term{a}, 1}, {"\x00. a.", []impl.Term{a}, 1}, {strings.Repeat("(", 200) + "a. b.", []impl.Term{b}, 1},
		{strings.Repeat("a. ", 1000), slices.Repeat([]impl.Term{a}, 1000), 0}, {strings.Repeat(". ", 1500), nil, 1500}, {strings.Repeat("a. = . ", 400), slices.Repeat([]impl.Term{a}, 400), 400},
		{"a." + strings.Repeat(" ", impl.MaxSource-2), []impl.Term{a}, 0},
		// What has no signs has no terms, and none that ended false.
		{"a." + strings.Repeat(" ", impl.MaxSource-1), nil, 0}, {strings.Repeat("a. ", 1001), nil, 0}, {strings.Repeat(". ", 5000), nil, 0},
	} {
		got, bad := impl.ReadAll(x.text)
		if bad != x.bad || !slices.EqualFunc(got, x.want, equalTerms) {
			t.Errorf("ReadAll(%.40q): %d terms, %d ended false; want %d, %d", x.text, len(got), bad, len(x.want), x.bad)
		}
	}
}

// The document's rule once more, told from the whole to its parts: which terms a piece of the signs can be, each with its priority, and with how many terms are begun in one another in it, itself too. TmVars have the places of their signs.

type reading struct {
	term  impl.Term
	prio  int
	begun int
}

type readings struct {
	signs []impl.Sign
	met   map[[2]int][]reading
}

func (r *readings) mark(at int, text string) bool {
	return at < len(r.signs) && r.signs[at].Kind == impl.SgMark && r.signs[at].Text == text
}

// named tells whether an SgAtom stands there that is not Near.
func (r *readings) named(at int) bool {
	return at < len(r.signs) && r.signs[at].Kind == impl.SgAtom && !r.signs[at].Near
}

func (r *readings) number(at int) bool {
	if !r.named(at) || r.signs[at].Text != "-" || at+1 >= len(r.signs) || r.signs[at+1].Kind != impl.SgInt {
		return false
	}
	return r.signs[at].At != math.MaxInt && r.signs[at+1].At == r.signs[at].At+1
}

// of are the readings of a piece as a term of at most a priority.
func (r *readings) of(from, to, most int) []reading {
	all, again := r.met[[2]int{from, to}]
	if !again && from < to {
		all = slices.Concat(r.primaries(from, to), r.prefixed(from, to), r.parted(from, to))
		r.met[[2]int{from, to}] = all
	}
	var out []reading
	for _, x := range all {
		if x.prio <= most {
			out = append(out, x)
		}
	}
	return out
}

func (r *readings) prefixed(from, to int) []reading {
	var out []reading
	if !r.named(from) || r.number(from) {
		return nil
	}
	rule, is := prefixByRule[r.signs[from].Text]
	if !is {
		return nil
	}
	for _, x := range r.of(from+1, to, rule[2]) {
		out = append(out, reading{structTerm(r.signs[from].Text, x.term), rule[0], x.begun + 1})
	}
	return out
}

func (r *readings) parted(from, to int) []reading {
	var out []reading
	for at := from + 1; at < to-1; at++ {
		rule, is := infixByRule[r.signs[at].Text]
		if !is || !r.named(at) && !r.mark(at, ",") {
			continue
		}
		for _, x := range r.of(from, at, rule[1]) {
			for _, y := range r.of(at+1, to, rule[2]) {
				out = append(out, reading{structTerm(r.signs[at].Text, x.term, y.term), rule[0], max(x.begun, y.begun+1)})
			}
		}
	}
	return out
}

func (r *readings) primaries(from, to int) []reading {
	s := r.signs[from]
	switch {
	case s.Kind == impl.SgAtom && s.Near:
		return r.withKids(from, to)
	case r.mark(from, "(") && to == from+3 && r.signs[from+1].Kind == impl.SgAtom && r.mark(to-1, ")"):
		return []reading{{atomTerm(r.signs[from+1].Text), 0, 1}}
	case r.mark(from, "(") && r.mark(to-1, ")"):
		return begunOnce(r.of(from+1, to-1, 1200))
	case r.mark(from, "[") && to == from+2 && r.mark(to-1, "]"):
		return []reading{{atomTerm("[]"), 0, 1}}
	case r.mark(from, "[") && r.mark(to-1, "]"):
		return r.listed(from+1, to-1)
	case s.Kind == impl.SgInt && to == from+1:
		return []reading{{intTerm(s.Num), 0, 1}}
	case s.Kind == impl.SgVar && to == from+1:
		return []reading{{varTerm(from), 0, 1}}
	case r.number(from) && to == from+2:
		return []reading{{intTerm(-r.signs[from+1].Num), 0, 1}}
	case s.Kind == impl.SgAtom && to == from+1 && infixByRule[s.Text][0] == 0 && prefixByRule[s.Text][0] == 0:
		return []reading{{atomTerm(s.Text), 0, 1}}
	}
	return nil
}

func begunOnce(inside []reading) []reading {
	var out []reading
	for _, x := range inside {
		out = append(out, reading{x.term, 0, x.begun + 1})
	}
	return out
}

// rows are the ways to read a piece as terms with `,` between, each as a term of these Kids.
func (r *readings) rows(from, to int) []reading {
	var out []reading
	for _, x := range r.of(from, to, 999) {
		out = append(out, reading{structTerm("", x.term), 0, x.begun})
	}
	for at := from + 1; at < to; at++ {
		if !r.mark(at, ",") {
			continue
		}
		for _, x := range r.of(from, at, 999) {
			for _, y := range r.rows(at+1, to) {
				out = append(out, reading{structTerm("", slices.Concat([]impl.Term{x.term}, y.term.Kids)...), 0, max(x.begun, y.begun)})
			}
		}
	}
	return out
}

func (r *readings) withKids(from, to int) []reading {
	if !r.mark(from+1, "(") || to < from+4 || !r.mark(to-1, ")") {
		return nil
	}
	var out []reading
	for _, x := range r.rows(from+2, to-1) {
		if len(x.term.Kids) <= 5 {
			out = append(out, reading{structTerm(r.signs[from].Text, x.term.Kids...), 0, x.begun + 1})
		}
	}
	return out
}

func (r *readings) listed(from, to int) []reading {
	var out []reading
	for _, x := range r.rows(from, to) {
		out = append(out, reading{listTerm(x.term.Kids...), 0, x.begun + 1})
	}
	for at := from + 1; at < to; at++ {
		if !r.mark(at, "|") {
			continue
		}
		for _, x := range r.rows(from, at) {
			for _, y := range r.of(at+1, to, 999) {
				out = append(out, reading{listBefore(y.term, x.term.Kids...), 0, max(x.begun, y.begun) + 1})
			}
		}
	}
	return out
}

// readByRule answers as ReadSigns does; it is for few signs.
func readByRule(t *testing.T, list []impl.Sign, at int) (impl.Term, []string, int, bool) {
	t.Helper()
	behind := max(at, 0)
	for behind < len(list) && list[behind].Kind != impl.SgEnd {
		behind++
	}
	if behind >= len(list) {
		return impl.Term{}, nil, len(list), false
	}
	if at < 0 {
		return impl.Term{}, nil, behind + 1, false
	}
	r := readings{list[at:behind], map[[2]int][]reading{}}
	all := r.of(0, behind-at, 1200)
	if len(all) > 1 {
		t.Fatalf("%s can be read in %d ways", shownSigns(r.signs), len(all))
	}
	if len(all) == 0 || all[0].begun > 130 {
		return impl.Term{}, nil, behind + 1, false
	}
	numbers, told := numbersByRule(r.signs)
	term := renumbered(all[0].term, numbers)
	if !impl.TermOk(term) {
		return impl.Term{}, nil, behind + 1, false
	}
	return term, told, behind + 1, true
}

// numbersByRule has the number of each SgVar by its place, and their names.
func numbersByRule(signs []impl.Sign) (map[int]int, []string) {
	numbers := map[int]int{}
	var told []string
	for at, s := range signs {
		if s.Kind != impl.SgVar {
			continue
		}
		numbers[at] = slices.Index(told, s.Text)
		if s.Text == "_" || numbers[at] < 0 {
			numbers[at] = len(told)
			told = append(told, s.Text)
		}
	}
	return numbers, told
}

func renumbered(t impl.Term, numbers map[int]int) impl.Term {
	if t.Kind == impl.TmVar {
		return varTerm(numbers[t.Num])
	}
	kids := slices.Clone(t.Kids)
	for i := range kids {
		kids[i] = renumbered(kids[i], numbers)
	}
	t.Kids = kids
	return t
}

// wantReadByRule holds ReadSigns against the rule, and against the promise.
func wantReadByRule(t *testing.T, signs []impl.Sign, at int) bool {
	t.Helper()
	term, told, behind, ok := readByRule(t, signs, at)
	got, names, place, is := impl.ReadSigns(signs, at)
	if is != ok || place != behind || !slices.Equal(names, told) || !equalTerms(got, term) {
		t.Fatalf("ReadSigns(%s, %d) = %s, %q, %d, %t; want %s, %q, %d, %t", shownSigns(signs), at, shown(got), names, place, is, shown(term), told, behind, ok)
	}
	if is {
		wantRightReading(t, got, names)
	}
	return is
}

// wantRightReading holds the promise: what is read is right, and its names are those of its TmVars.
func wantRightReading(t *testing.T, term impl.Term, names []string) {
	t.Helper()
	if !impl.TermOk(term) {
		t.Fatalf("%s is read, and is not right", shown(term))
	}
	numbers := impl.VarsOf(term)
	for i, n := range numbers {
		if i != n {
			t.Fatalf("the TmVars of %s are not numbered in order", shown(term))
		}
	}
	if len(numbers) != len(names) {
		t.Fatalf("%s has %d TmVars and %d names", shown(term), len(numbers), len(names))
	}
	for i, name := range names {
		if name != "_" && slices.Index(names, name) != i {
			t.Fatalf("%q has two numbers in %s", name, shown(term))
		}
	}
}

func TestReadOfEveryShortText(t *testing.T) {
	for _, alphabet := range []struct {
		pieces []string
		most   int
	}{
		{[]string{"a", "X", "_", "1", "-", " -", "(", ")", "[", "]", ",", "|", "=", ":-", `\+`, " ", "{"}, 4},
		{[]string{"a", "-", "1", "(", ")", ",", " - "}, 6},
		{[]string{"X", "[", "]", "|", ",", "f("}, 6},
		{[]string{"a ", ":- ", `\+ `, "- ", "; ", "is ", "* "}, 6},
	} {
		texts, read := []string{""}, 0
		for range alphabet.most {
			var longer []string
			for _, text := range texts {
				for _, piece := range alphabet.pieces {
					longer = append(longer, text+piece)
				}
			}
			for _, text := range longer {
				signs, _ := impl.SignsOf(text + " .")
				if wantReadByRule(t, signs, 0) {
					read++
				}
			}
			texts = longer
		}
		if read < 50 {
			t.Errorf("only %d texts of %q are read", read, alphabet.pieces)
		}
	}
}

// writing writes terms as they may be read, with brackets, blanks and quotes drawn at random.
type writing struct {
	r     *rand.Rand
	names map[int]string
	out   strings.Builder
}

func (w *writing) oneIn(many int) bool { return w.r.Intn(many) == 0 }

// put adds a piece, with a blank ahead where the two would become one sign, or another one.
func (w *writing) put(piece string) {
	text := w.out.String()
	if text != "" {
		last := text[len(text)-1:]
		const letters = "abcdefghijklmnopqrstuvwxyzABCDEFGHIJKLMNOPQRSTUVWXYZ0123456789_"
		both := func(bytes string) bool { return strings.Contains(bytes, last) && strings.Contains(bytes, piece[:1]) }
		opens := piece == "(" && !strings.Contains("([,|", last)
		if both(letters) || both(`+-*/\^<>=~:.?@#&$`) || opens || last == "'" || last == "-" && strings.Contains(letters, piece[:1]) {
			w.out.WriteString([]string{" ", "\n", "\t", "%x\n"}[w.r.Intn(4)])
		} else if w.oneIn(4) {
			w.out.WriteString(" ")
		}
	}
	w.out.WriteString(piece)
}

func (w *writing) putName(name string) {
	plain, _ := impl.SignsOf(name + " ")
	if len(plain) == 1 && plain[0].Kind == impl.SgAtom && plain[0].Text == name && !w.oneIn(5) {
		w.put(name)
		return
	}
	w.put("'" + name + "'")
}

func (w *writing) putTerm(t impl.Term, most int) {
	infix, isInfix := infixByRule[t.Name]
	prefix, isPrefix := prefixByRule[t.Name]
	isSign := isInfix || isPrefix
	switch {
	case w.oneIn(12):
		w.bracketed(func() { w.putTerm(t, 1200) })
	case t.Kind == impl.TmVar:
		w.put(w.names[t.Num])
	case t.Kind == impl.TmInt:
		w.put(impl.Decimal(t.Num))
	case t.Kind == impl.TmAtom && t.Name == "[]" && !w.oneIn(3):
		w.put("[")
		w.put("]")
	case t.Kind == impl.TmAtom && isSign:
		w.bracketed(func() { w.putName(t.Name) })
	case t.Kind == impl.TmAtom:
		w.putName(t.Name)
	case isInfix && len(t.Kids) == 2 && !w.oneIn(6):
		w.signed(t, infix, most)
	case isPrefix && len(t.Kids) == 1 && !w.oneIn(6):
		w.signed(t, prefix, most)
	case t.Name == "." && len(t.Kids) == 2 && !w.oneIn(6):
		w.listed(t)
	default:
		w.putName(t.Name)
		w.out.WriteString("(")
		w.row(t.Kids)
		w.put(")")
	}
}

func (w *writing) bracketed(inside func()) {
	w.put("(")
	inside()
	w.put(")")
}

// signed writes a term with its sign ahead, or between, in brackets where they must be.
func (w *writing) signed(t impl.Term, rule [3]int, most int) {
	if rule[0] > most {
		w.bracketed(func() { w.signed(t, rule, 1200) })
		return
	}
	if len(t.Kids) == 2 {
		w.putTerm(t.Kids[0], rule[1])
	}
	if t.Name == "," && !w.oneIn(4) {
		w.put(",")
	} else {
		w.putName(t.Name)
	}
	w.putTerm(t.Kids[len(t.Kids)-1], rule[2])
}

func (w *writing) row(list []impl.Term) {
	for i, t := range list {
		if i > 0 {
			w.put(",")
		}
		w.putTerm(t, 999)
	}
}

func (w *writing) listed(t impl.Term) {
	w.put("[")
	w.putTerm(t.Kids[0], 999)
	rest := t.Kids[1]
	for rest.Name == "." && len(rest.Kids) == 2 && !w.oneIn(6) {
		w.put(",")
		w.putTerm(rest.Kids[0], 999)
		rest = rest.Kids[1]
	}
	if !equalTerms(rest, atomTerm("[]")) || w.oneIn(6) {
		w.put("|")
		w.putTerm(rest, 999)
	}
	w.put("]")
}

// drawnSigned is a term with many signs and lists in it.
func drawnSigned(r *rand.Rand, deep int) impl.Term {
	kid := func() impl.Term { return drawnSigned(r, deep-1) }
	pick := func(list []string) string { return list[r.Intn(len(list))] }
	k := r.Intn(12)
	if deep <= 1 {
		k = r.Intn(5)
	}
	switch {
	case k < 2:
		return varTerm(r.Intn(4))
	case k < 3:
		return intTerm([]int{0, 1, 25, -1, -7, impl.MaxInt, -impl.MaxInt}[r.Intn(7)])
	case k < 4:
		return atomTerm(pick([]string{"a", "b", "zQ_9", "[]", "!", "=..", "Xs", "a%b", "(", ".", "|", "7", "abcdefghijklmnopqrst"}))
	case k < 5:
		return atomTerm(pick(append(namesIn(infixByRule), namesIn(prefixByRule)...)))
	case k < 9:
		return structTerm(pick(namesIn(infixByRule)), kid(), kid())
	case k < 10:
		return structTerm(pick(namesIn(prefixByRule)), kid())
	case k < 11:
		return structTerm(".", kid(), kid())
	}
	kids := make([]impl.Term, 1+r.Intn(5))
	for i := range kids {
		kids[i] = kid()
	}
	return structTerm(pick([]string{"f", "g", ".", "-", ":-", ",", "=", "A", "[]"}), kids...)
}

// drawnWritten is a term, how it may be written, and the names of its TmVars.
func drawnWritten(r *rand.Rand, deep int) (impl.Term, string, []string) {
	term := namedByPlace(drawnSigned(r, deep), map[int]int{})
	w := writing{r: r, names: map[int]string{}}
	var told []string
	for i := range impl.VarsOf(term) {
		name := []string{"X", "Y", "_", "Zs_"}[r.Intn(4)] + impl.Decimal(i)
		if countVar(term, i) == 1 && w.oneIn(2) {
			name = "_"
		}
		w.names[i] = name
		told = append(told, name)
	}
	w.putTerm(term, 1200)
	return term, w.out.String(), told
}

func countVar(t impl.Term, number int) int {
	many := 0
	if t.Kind == impl.TmVar && t.Num == number {
		many = 1
	}
	for _, k := range t.Kids {
		many += countVar(k, number)
	}
	return many
}

func TestReadIsWhatWasWritten(t *testing.T) {
	r := rand.New(rand.NewSource(6))
	large := 0
	for i := range 20000 {
		term, text, told := drawnWritten(r, 1+i%9)
		if !impl.TermOk(term) || len(text)+2 > impl.MaxSource {
			continue
		}
		wantRead(t, text+" .", term, told...)
		if t.Failed() {
			return
		}
		if countTerms(term) > 30 {
			large++
		}
	}
	if large < 500 {
		t.Errorf("only %d terms are large", large)
	}
}

func TestReadIsTheDocumentsRule(t *testing.T) {
	r := rand.New(rand.NewSource(66))
	pieces := []string{" ", "", "a", "X", "_", "1", "-", " - ", "-1", "(", ")", "[", "]", ",", "|", "=", " = ", " :- ", `\+ `, " ; ", " is ", "f(", "(-)", "[]", "'", "{", ". ", "%\n", "','", "-->", "*"}
	read, unread := 0, 0
	for range 40000 {
		_, text, _ := drawnWritten(r, 1+r.Intn(3))
		for range r.Intn(3) {
			at := r.Intn(len(text) + 1)
			to := min(len(text), at+r.Intn(2))
			text = text[:at] + pieces[r.Intn(len(pieces))] + text[to:]
		}
		signs, _ := impl.SignsOf(text + " .")
		if len(signs) > 40 {
			continue
		}
		if wantReadByRule(t, signs, 0) {
			read++
		} else {
			unread++
		}
		wantReadByRule(t, signs, r.Intn(len(signs)+2)-1)
	}
	if read < 5000 || unread < 5000 {
		t.Errorf("%d texts are read, %d are not", read, unread)
	}
}

// drawnSigns are signs that need not be those of a text.
func drawnSigns(r *rand.Rand) []impl.Sign {
	texts := []string{"", "a", "f", "-", "-", "=", ":-", `\+`, "is", ",", "(", ")", "[", "]", "|", "[]", "_", "X", "a b"}
	marks := []string{"(", ")", "[", "]", ",", "|"}
	kinds := []int{impl.SgAtom, impl.SgAtom, impl.SgAtom, impl.SgVar, impl.SgInt, impl.SgMark, impl.SgMark, impl.SgMark, impl.SgEnd, impl.SgBad, 0, 7}
	out := make([]impl.Sign, r.Intn(9))
	for i := range out {
		s := impl.Sign{Kind: kinds[r.Intn(8+r.Intn(5))], Text: texts[r.Intn(len(texts))], Num: []int{0, 3, -3, impl.MaxInt, impl.MaxInt + 1}[r.Intn(5)], At: []int{i, 0, i, -i, math.MaxInt, math.MinInt}[r.Intn(6)], Near: r.Intn(5) == 0}
		if s.Kind == impl.SgMark && r.Intn(8) > 0 {
			s.Text = marks[r.Intn(len(marks))]
		}
		if i > 0 && s.Kind == impl.SgMark && s.Text == "(" && r.Intn(4) > 0 {
			out[i-1].Near = true
		}
		out[i] = s
	}
	return out
}

func TestReadOddSignsIsTheDocumentsRule(t *testing.T) {
	r := rand.New(rand.NewSource(67))
	read := 0
	for range 150000 {
		signs := drawnSigns(r)
		if r.Intn(4) > 0 {
			signs = append(signs, endAt(len(signs)))
		}
		at := 0
		if r.Intn(4) == 0 {
			at = r.Intn(len(signs)+3) - 1
		}
		if wantReadByRule(t, signs, at) {
			read++
		}
	}
	if read < 3000 {
		t.Errorf("only %d lists are read", read)
	}
}

// drawnFile is terms that may be read, some of them with a fault, one behind the other.
func drawnFile(r *rand.Rand) string {
	var out strings.Builder
	for range r.Intn(6) {
		_, text, _ := drawnWritten(r, 1+r.Intn(4))
		if r.Intn(4) == 0 {
			at := r.Intn(len(text) + 1)
			text = text[:at] + drawnText(r) + text[at:]
		}
		out.WriteString(text + " .\n")
	}
	if r.Intn(4) == 0 {
		out.WriteString(drawnBytes(r))
	}
	return out.String()
}

func TestWhatIsReadIsRight(t *testing.T) {
	r := rand.New(rand.NewSource(68))
	many, faults := 0, 0
	for i := range 20000 {
		text := drawnFile(r)
		switch i % 4 {
		case 0:
			text = drawnText(r)
		case 1:
			text = drawnBytes(r)
		}
		signs, ok := impl.SignsOf(text)
		if !ok {
			continue
		}
		all, bad := impl.ReadAll(text)
		many, faults = many+len(all), faults+bad
		wantEachRead(t, text, signs, all, bad)
	}
	if many < 10000 || faults < 10000 {
		t.Errorf("%d terms are read, %d are not", many, faults)
	}
}

// wantEachRead has all terms of a text read once more, each by itself.
func wantEachRead(t *testing.T, text string, signs []impl.Sign, all []impl.Term, bad int) {
	t.Helper()
	read, unread := 0, 0
	for at := 0; at < len(signs); {
		term, names, behind, ok := impl.ReadSigns(signs, at)
		if behind <= at || behind > len(signs) {
			t.Fatalf("%q: behind %d comes %d of %d", text, at, behind, len(signs))
		}
		ended := signs[behind-1].Kind == impl.SgEnd
		within := slices.ContainsFunc(signs[at:behind-1], func(s impl.Sign) bool { return s.Kind == impl.SgEnd })
		if within || !ended && behind < len(signs) || ok && !ended {
			t.Fatalf("%q: from %d to %d is no piece up to an SgEnd", text, at, behind)
		}
		piece := text[signs[at].At:]
		if behind < len(signs) {
			piece = text[signs[at].At:signs[behind].At]
		}
		alone, told, is := impl.ReadTerm(piece)
		if is != ok || !equalTerms(alone, term) || !slices.Equal(told, names) {
			t.Fatalf("%q: %q is read otherwise by itself", text, piece)
		}
		if ok && (read >= len(all) || !equalTerms(all[read], term)) {
			t.Fatalf("ReadAll(%q) has another term at %d", text, read)
		}
		if ok {
			wantRightReading(t, term, names)
			read++
		} else {
			unread++
		}
		at = behind
	}
	if read != len(all) || unread != bad {
		t.Fatalf("ReadAll(%q): %d terms, %d ended false; want %d, %d", text, len(all), bad, read, unread)
	}
}

// wantNoListTwice has no list of one answer stand in two places.
func wantNoListTwice(t *testing.T, text string, terms ...impl.Term) {
	t.Helper()
	met := map[*impl.Term]bool{}
	for _, term := range terms {
		for _, list := range listsIn(term, 5000) {
			if len(list) == 0 {
				continue
			}
			if met[&list[0]] {
				t.Fatalf("%q: two lists share memory", text)
			}
			met[&list[0]] = true
		}
	}
}

func TestReadAnswersNewMemory(t *testing.T) {
	r := rand.New(rand.NewSource(69))
	for range 2000 {
		_, text, _ := drawnWritten(r, 4)
		signs, _ := impl.SignsOf(text + " .")
		one, names, _, _ := impl.ReadSigns(signs, 0)
		other, told, _, _ := impl.ReadSigns(signs, 0)
		wantNoListTwice(t, text, one, other)
		before, namesBefore, signsBefore := deepCopy(other), slices.Clone(told), slices.Clone(signs)
		for _, list := range listsIn(one, 5000) {
			clear(list[:cap(list)])
		}
		clear(names[:cap(names)])
		if !equalTerms(other, before) || !slices.Equal(told, namesBefore) || !slices.Equal(signs, signsBefore) {
			t.Fatalf("%q: two answers share memory, or one with what was asked", text)
		}
		twice, _ := impl.ReadAll(text + " . " + text + " .")
		wantNoListTwice(t, text, twice...)
	}
}

func TestReadAnswersNewNames(t *testing.T) {
	text := strings.Clone("longname(Variable, [other_name|'quoted']) :- \\+ another(Variable), (is) = Second - 1, (plain) .")
	signs, _ := impl.SignsOf(text)
	bySigns, names, _, _ := impl.ReadSigns(signs, 0)
	byText, told, ok := impl.ReadTerm(text)
	all, _ := impl.ReadAll(text)
	if !ok || len(all) != 1 {
		t.Fatal("not read")
	}
	for _, list := range listsIn(structTerm("w", bySigns, byText, all[0]), 1000) {
		for _, term := range list {
			names = append(names, term.Name)
		}
	}
	for _, name := range append(names, told...) {
		if name != "" && shares(text, name) {
			t.Errorf("%q lies in the text", name)
		}
		for _, s := range signs {
			if name != "" && s.Text != "" && shares(s.Text, name) {
				t.Errorf("%q lies in a sign", name)
			}
		}
	}
}

func TestSignsAreNotWrittenInto(t *testing.T) {
	r := rand.New(rand.NewSource(70))
	for i := range 5000 {
		_, text, _ := drawnWritten(r, 3)
		signs, _ := impl.SignsOf(text + " . " + drawnText(r))
		if i%2 == 0 {
			signs = drawnSigns(r)
		}
		spare := []impl.Sign{endAt(77), atomAt(78, "spare")}
		room := slices.Concat(signs, spare)
		asked := room[:len(signs)]
		for at := -1; at <= len(signs)+1; at++ {
			impl.ReadSigns(asked, at)
		}
		if !slices.Equal(room, slices.Concat(signs, spare)) {
			t.Fatalf("%s, or the room behind, was written into", shownSigns(signs))
		}
	}
}

func TestReadHangsOnWhatIsAskedAlone(t *testing.T) {
	texts := []string{"f(X,Y).", "f(Y", "X.", "_ = _.", "((((", "a b.", "g(Z)."}
	first := ""
	for i := range 20 {
		told := ""
		for _, text := range texts {
			term, names, ok := impl.ReadTerm(text)
			told += fmt.Sprint(shown(term), names, ok)
		}
		if i == 0 {
			first = told
		}
		if told != first {
			t.Fatal("read otherwise when asked again")
		}
	}
}
