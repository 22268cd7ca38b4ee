package tests

import (
	"fmt"
	"math"
	"math/rand"
	"regexp"
	"slices"
	"strings"
	"testing"

	"loop.example/g00469/impl"
)

// The document's rule of names once more, as a pattern; a `.` alone has it, too, but is an SgEnd.
var plainName = regexp.MustCompile(`\A(?:[a-z][A-Za-z0-9_]{0,19}|[-+*/\\^<>=~:.?@#&$]{1,20}|[!;])\z`)

func atomByRule(name string) string {
	if name != "." && plainName.MatchString(name) {
		return name
	}
	return "'" + name + "'"
}

func isPairTerm(t impl.Term) bool {
	return t.Kind == impl.TmStruct && t.Name == "." && len(t.Kids) == 2
}

// writeByRule is the document's rule of right terms once more: a list is its first item, and what the rest is written as.
func writeByRule(t impl.Term) string {
	var kids []string
	for _, k := range t.Kids {
		kids = append(kids, writeByRule(k))
	}
	_, isInfix := infixByRule[t.Name]
	_, isPrefix := prefixByRule[t.Name]
	switch {
	case t.Kind == impl.TmVar:
		return fmt.Sprintf("_%d", t.Num)
	case t.Kind == impl.TmInt:
		return fmt.Sprintf("%d", t.Num)
	case t.Kind == impl.TmAtom && t.Name == "[]":
		return "[]"
	case t.Kind == impl.TmAtom && (isInfix || isPrefix):
		return "(" + atomByRule(t.Name) + ")"
	case t.Kind == impl.TmAtom:
		return atomByRule(t.Name)
	case isPairTerm(t) && isPairTerm(t.Kids[1]):
		return "[" + kids[0] + "," + kids[1][1:]
	case isPairTerm(t) && equalTerms(t.Kids[1], atomTerm("[]")):
		return "[" + kids[0] + "]"
	case isPairTerm(t):
		return "[" + kids[0] + "|" + kids[1] + "]"
	case isInfix && len(kids) == 2 && t.Name == ",":
		return "(" + kids[0] + " , " + kids[1] + ")"
	case isInfix && len(kids) == 2:
		return fmt.Sprintf("(%s %s %s)", kids[0], atomByRule(t.Name), kids[1])
	}
	return atomByRule(t.Name) + "(" + strings.Join(kids, ",") + ")"
}

// firstNumbers are the numbers of TmVars in order of their first places.
func firstNumbers(t impl.Term, so []int) []int {
	if t.Kind == impl.TmVar && !slices.Contains(so, t.Num) {
		so = append(so, t.Num)
	}
	for _, k := range t.Kids {
		so = firstNumbers(k, so)
	}
	return so
}

// wantReadAgain holds the promise, and has the names told by which each TmVar was written.
func wantReadAgain(t *testing.T, term impl.Term) {
	t.Helper()
	text := impl.WriteTerm(term)
	got, names, ok := impl.ReadTerm(text + " .")
	if !ok || !impl.Variant(got, term) || !variantByRule(got, term) {
		t.Fatalf("%s is written %q, which is read %s, %t", shown(term), text, shown(got), ok)
	}
	var want []string
	for _, n := range firstNumbers(term, nil) {
		want = append(want, "_"+impl.Decimal(n))
	}
	if !slices.Equal(names, want) {
		t.Fatalf("%s is written %q, which has the names %q; want %q", shown(term), text, names, want)
	}
}

func wantWritten(t *testing.T, term impl.Term, want string) {
	t.Helper()
	if got := impl.WriteTerm(term); got != want {
		t.Fatalf("WriteTerm(%s) = %q; want %q", shown(term), got, want)
	}
	if len(want)+2 <= impl.MaxSource {
		wantReadAgain(t, term)
	}
}

func wantNotWritten(t *testing.T, terms ...impl.Term) {
	t.Helper()
	for _, term := range terms {
		if got := impl.WriteTerm(term); got != "" {
			t.Errorf("WriteTerm(%s) = %.80q; want nothing", shown(term), got)
		}
	}
}

func wantAsItIs(t *testing.T, names ...string) {
	t.Helper()
	for _, name := range names {
		if got := impl.AtomText(name); got != name {
			t.Errorf("AtomText(%q) = %q; want it as it is", name, got)
		}
	}
}

func wantQuoted(t *testing.T, names ...string) {
	t.Helper()
	for _, name := range names {
		if got := impl.AtomText(name); got != "'"+name+"'" {
			t.Errorf("AtomText(%.80q) = %.80q; want it between two quotes", name, got)
		}
	}
}

func TestAtomTextOfLetters(t *testing.T) {
	wantAsItIs(t, "a", "z", "m", "abc", "a_", "a_b", "a0", "zQ_9", "aZ", "is", "a9z", "do", "abcdefghijklmnopqrst", "a0123456789012345678", strings.Repeat("z", 20))
	wantQuoted(t, "A", "Z", "Xs", "_", "_a", "__", "_1", "0", "9", "42", "007", "1a", "9_", "Abcdefghijklmnopqrst", "abcdefghijklmnopqrstu", strings.Repeat("z", 21), strings.Repeat("z", 40), "a0123456789012345678_")
}

func TestAtomTextOfSymbolBytes(t *testing.T) {
	const symbols = `+-*/\^<>=~:.?@#&$`
	for i := range len(symbols) {
		one := symbols[i : i+1]
		if one != "." {
			wantAsItIs(t, one)
		}
		wantAsItIs(t, one+one, one+".", "."+one, one+".:", strings.Repeat(one, 19), strings.Repeat(one, 20), strings.Repeat(one, 19)+".", "."+strings.Repeat(one, 19))
		wantQuoted(t, strings.Repeat(one, 21), strings.Repeat(one, 20)+".", "."+strings.Repeat(one, 20), "a"+one, one+"a", one+"1", "X"+one, one+"_", one+"!", one+" ", " "+one, one+"%", one+"(")
	}
	wantAsItIs(t, symbols, "=..", ":-", "-->", "->", `\+`, `\=`, "==", "=:=", "//", "..", "...", "./.", ".:", "=.=")
	wantQuoted(t, ".", " .", ". ", ".%", ".\n", ".\t", "a.", ".a", ". .", "=. .", "=.,", "..a")
}

func TestAtomTextOfOtherBytes(t *testing.T) {
	wantAsItIs(t, "!", ";")
	wantQuoted(t, "", ",", "|", "(", ")", "[", "]", "[]", "{", "}", "{}", "()", "`", "\"", "'", "''", "!!", ";;", "!;", "! ", " ;", "a!", ";a", ",,", "[ ]", "[a]", "f(a)", "(a)", "(-)", "-1", "- 1", "+a")
	wantQuoted(t, "a b", "a a", "a-b", "a,b", "a+", "x-y", "X Y", "a.b", "a;", "a|b", "a=b", "- -", "+ +", "! !")
	for _, name := range []string{"a", "abc", "=", "=..", "!", ";", "X", "1", "."} {
		for _, part := range []string{" ", "\t", "\n", "%", "% ", "%a", "%a\n", "%\n", "\n%", "\r", "\x00", "\v", "\f"} {
			wantQuoted(t, part+name, name+part, name+part+name, part+name+part, part)
		}
	}
	// One that stands between quotes already is one SgAtom, but not as it stands.
	wantQuoted(t, "'a'", "'='", "'!'", "'X'", "'a b'", "'[]'", "'.'", "','", "a'", "'a", "a'b", "a''b", "''a''", "'a'b", "''''", "'12345678901234567890'", "'a' ")
	for b := 127; b < 256; b++ {
		one := string([]byte{byte(b)})
		wantQuoted(t, one, "a"+one, one+"a", "="+one, one+"=")
	}
	wantQuoted(t, "\u00e9", "a\u00e9", "\u20ac", "\ufeffa", "\U0001f600", "\xe2\x82", "\u00a0a", "\u0430")
}

func TestAtomTextOfLongTexts(t *testing.T) {
	for _, many := range []int{22, 100, impl.MaxSource - 1, impl.MaxSource, impl.MaxSource + 1, impl.MaxSource + 2, 1000000} {
		for _, piece := range []string{"a", "=", ".", "!", "X", "1", " ", "\n", "%", "'", ",", "\xff"} {
			wantQuoted(t, strings.Repeat(piece, many), "a"+strings.Repeat(piece, many-1), strings.Repeat(piece, many-1)+"a", "'a'"+strings.Repeat(piece, many-3))
		}
	}
}

func TestAtomTextIsTheDocumentsRule(t *testing.T) {
	wantByRule := func(name string) {
		if got, want := impl.AtomText(name), atomByRule(name); got != want {
			t.Fatalf("AtomText(%q) = %q; want %q", name, got, want)
		}
	}
	bytes := allBytes()
	for i := range 256 {
		wantByRule(bytes[i : i+1])
		for j := range 256 {
			wantByRule(bytes[i:i+1] + bytes[j:j+1])
		}
	}
	for _, x := range "aZ_0=.!; %'(,\n" {
		for _, y := range "aZ_0=.!; %'(,\n" {
			for _, z := range "aZ_0=.!; %'(,\n" {
				wantByRule(string([]rune{x, y, z}))
			}
		}
	}
	r := rand.New(rand.NewSource(7))
	asItIs := 0
	for i := range 60000 {
		name := drawnText(r)
		switch i % 3 {
		case 0:
			name = drawnBytes(r)
		case 1:
			name = drawnName(r)
		}
		wantByRule(name)
		if atomByRule(name) == name {
			asItIs++
		}
	}
	if asItIs < 5000 {
		t.Errorf("only %d names stand as they are", asItIs)
	}
}

// A name that may be is the Text of one SgAtom, when it is written.
func TestAtomTextIsOneSign(t *testing.T) {
	r := rand.New(rand.NewSource(71))
	for range 20000 {
		name := drawnName(r)
		signs, ok := impl.SignsOf(impl.AtomText(name))
		if !ok || len(signs) != 1 || signs[0].Kind != impl.SgAtom || signs[0].Text != name || signs[0].At != 0 {
			t.Fatalf("AtomText(%q) = %q, which is %s", name, impl.AtomText(name), shownSigns(signs))
		}
	}
}

// drawnName is one that may be, and not seldom one of a sign.
func drawnName(r *rand.Rand) string {
	bytes := []string{"abcxyzABZ_019", "abcxyzABZ_019", `+-*/\^<>=~:.?@#&$`, "!;,|()[]", "ab=.:-!,"}[r.Intn(5)]
	out := make([]byte, 1+r.Intn(20))
	if r.Intn(2) == 0 {
		out = out[:1+r.Intn(min(3, len(out)))]
	}
	for i := range out {
		out[i] = bytes[r.Intn(len(bytes))]
		for r.Intn(20) == 0 || out[i] == '\'' || out[i] == '"' {
			out[i] = byte(33 + r.Intn(94))
		}
	}
	return string(out)
}

func TestWriteNumbers(t *testing.T) {
	for n, want := range map[int]string{0: "_0", 1: "_1", 9: "_9", 10: "_10", 4711: "_4711", 99998: "_99998", 99999: "_99999"} {
		wantWritten(t, varTerm(n), want)
		wantWritten(t, structTerm("f", varTerm(n), varTerm(0), varTerm(n)), "f("+want+",_0,"+want+")")
	}
	for n, want := range map[int]string{0: "0", 1: "1", -1: "-1", 10: "10", -10: "-10", 4711: "4711", -4711: "-4711", impl.MaxInt: "999999999", -impl.MaxInt: "-999999999", impl.MaxInt - 1: "999999998", 1 - impl.MaxInt: "-999999998"} {
		number, a := intTerm(n), atomTerm("a")
		wantWritten(t, number, want)
		wantWritten(t, structTerm("f", number, a, number), "f("+want+",a,"+want+")")
		wantWritten(t, listBefore(number, number, number), "["+want+","+want+"|"+want+"]")
		// A number of `-` of one is never the number below 0.
		wantWritten(t, structTerm("-", number), "-("+want+")")
		wantWritten(t, structTerm("-", structTerm("-", number)), "-(-("+want+"))")
		for name := range infixByRule {
			wantWritten(t, structTerm(name, number, a), "("+want+" "+name+" a)")
			wantWritten(t, structTerm(name, a, number), "(a "+name+" "+want+")")
			wantWritten(t, structTerm(name, number, number), "("+want+" "+name+" "+want+")")
		}
	}
	wantNotWritten(t, varTerm(-1), varTerm(100000), varTerm(math.MaxInt), varTerm(math.MinInt), intTerm(impl.MaxInt+1), intTerm(-impl.MaxInt-1), intTerm(math.MaxInt), intTerm(math.MinInt))
}

func TestWriteNames(t *testing.T) {
	for _, name := range []string{"a", "abc", "zQ_9", "!", "=..", ">", "..", "++", "/", "true", "iss", "i", ":", "--", "---", "=<", "\\", "abcdefghijklmnopqrst"} {
		wantWritten(t, atomTerm(name), name)
		wantWritten(t, structTerm("f", atomTerm(name)), "f("+name+")")
		wantWritten(t, structTerm(name, atomTerm(name)), name+"("+name+")")
	}
	for _, name := range []string{"A", "_", "_1", "1", "-1", "42", ".", "|", "(", ")", "[", "]", "()", "{}", "a-b", "a.", ".a", "%", "%a", "a%", "a(b)", "[a]", "(-)", ",,", "is,", "Abcdefghijklmnopqrst"} {
		wantWritten(t, atomTerm(name), "'"+name+"'")
		wantWritten(t, structTerm("f", atomTerm(name)), "f('"+name+"')")
		wantWritten(t, structTerm(name, atomTerm(name)), "'"+name+"'('"+name+"')")
	}
	wantWritten(t, atomTerm("[]"), "[]")
	wantWritten(t, structTerm("f", atomTerm("[]"), atomTerm("[]")), "f([],[])")
	wantWritten(t, structTerm("[]", atomTerm("[]")), "'[]'([])")
	wantWritten(t, structTerm("=", atomTerm("[]"), atomTerm("[]")), "([] = [])")
}

func TestWriteNamesOfSigns(t *testing.T) {
	a, b := atomTerm("a"), atomTerm("b")
	for name, text := range signsByName() {
		alone := atomTerm(name)
		wantWritten(t, alone, "("+text+")")
		wantWritten(t, structTerm("f", alone), "f(("+text+"))")
		wantWritten(t, structTerm("f", a, alone, b), "f(a,("+text+"),b)")
		wantWritten(t, listTerm(alone, alone), "[("+text+"),("+text+")]")
		wantWritten(t, listBefore(alone, alone), "[("+text+")|("+text+")]")
		wantWritten(t, structTerm("=", alone, alone), "(("+text+") = ("+text+"))")
		wantWritten(t, structTerm("-", alone), "-(("+text+"))")
		wantWritten(t, structTerm(name, alone), text+"(("+text+"))")
		wantWritten(t, structTerm(name, a), text+"(a)")
		wantWritten(t, structTerm(name, structTerm(name, a)), text+"("+text+"(a))")
		wantWritten(t, structTerm(name, a, b, a), text+"(a,b,a)")
		wantWritten(t, structTerm(name, a, b, a, b, a), text+"(a,b,a,b,a)")
	}
	// `\+` is ahead only, and one of two is as any other.
	wantWritten(t, structTerm(`\+`, a, b), `\+(a,b)`)
	wantWritten(t, structTerm("!", a, b), "!(a,b)")
	wantWritten(t, structTerm(">", a, b), ">(a,b)")
	wantWritten(t, structTerm("|", a, b), "'|'(a,b)")
}

func TestWriteInfixSigns(t *testing.T) {
	a, b, x := atomTerm("a"), atomTerm("b"), varTerm(7)
	if len(infixByRule) != 15 {
		t.Fatal("a sign is missing")
	}
	for name := range infixByRule {
		one := structTerm(name, a, b)
		text := "(a " + name + " b)"
		wantWritten(t, one, text)
		wantWritten(t, structTerm(name, x, x), "(_7 "+name+" _7)")
		wantWritten(t, structTerm("f", one), "f("+text+")")
		wantWritten(t, structTerm("f", one, a, one), "f("+text+",a,"+text+")")
		wantWritten(t, listTerm(one, one), "["+text+","+text+"]")
		wantWritten(t, listBefore(one, a), "[a|"+text+"]")
		wantWritten(t, structTerm(name, listTerm(a), atomTerm("[]")), "([a] "+name+" [])")
		wantWritten(t, structTerm(name, structTerm("f", a), atomTerm("A")), "(f(a) "+name+" 'A')")
		for other, quoted := range signsByName() {
			wantWritten(t, structTerm(name, atomTerm(other), atomTerm(other)), "(("+quoted+") "+name+" ("+quoted+"))")
			wantWritten(t, structTerm(name, structTerm(other, a), structTerm(other, b)), "("+quoted+"(a) "+name+" "+quoted+"(b))")
			wantWritten(t, structTerm(other, one), quoted+"("+text+")")
			if _, is := infixByRule[other]; is {
				wantWritten(t, structTerm(other, one, x), "("+text+" "+other+" _7)")
				wantWritten(t, structTerm(other, x, one), "(_7 "+other+" "+text+")")
				wantWritten(t, structTerm(other, one, one), "("+text+" "+other+" "+text+")")
				continue
			}
			wantWritten(t, structTerm(other, one, one), quoted+"("+text+","+text+")")
		}
	}
}

func TestWriteLists(t *testing.T) {
	a, b, none, x := atomTerm("a"), atomTerm("b"), atomTerm("[]"), varTerm(3)
	wantWritten(t, listTerm(a), "[a]")
	wantWritten(t, listTerm(a, b), "[a,b]")
	wantWritten(t, listTerm(a, b, intTerm(-1), x, structTerm("f", a), a, b), "[a,b,-1,_3,f(a),a,b]")
	wantWritten(t, structTerm(".", a, x), "[a|_3]")
	wantWritten(t, listBefore(x, a, b), "[a,b|_3]")
	wantWritten(t, listBefore(intTerm(0), a), "[a|0]")
	wantWritten(t, listBefore(intTerm(-5), a), "[a|-5]")
	wantWritten(t, listBefore(b, a), "[a|b]")
	wantWritten(t, listBefore(atomTerm("."), a), "[a|'.']")
	wantWritten(t, listBefore(atomTerm("[]a"), a), "[a|'[]a']")
	wantWritten(t, listBefore(atomTerm("|"), atomTerm(",")), "[(',')|'|']")
	wantWritten(t, listBefore(structTerm("f", a, b), a), "[a|f(a,b)]")
	wantWritten(t, listBefore(structTerm("[]", a), a), "[a|'[]'(a)]")
	wantWritten(t, listBefore(structTerm("[]", a, b), a), "[a|'[]'(a,b)]")
	wantWritten(t, listBefore(structTerm(".", a), a), "[a|'.'(a)]")
	wantWritten(t, listBefore(structTerm(".", a, b, a), a), "[a|'.'(a,b,a)]")
	wantWritten(t, listTerm(none), "[[]]")
	wantWritten(t, listTerm(none, none), "[[],[]]")
	wantWritten(t, listTerm(listTerm(a), listTerm(listTerm(b), a), b), "[[a],[[b],a],b]")
	wantWritten(t, listBefore(listTerm(a), b), "[b,a]")
	wantWritten(t, listBefore(listBefore(x, a), listBefore(x, b)), "[[b|_3],a|_3]")
	wantWritten(t, structTerm("f", listTerm(a), listBefore(b, a)), "f([a],[a|b])")
	wantWritten(t, structTerm(".", a), "'.'(a)")
	wantWritten(t, structTerm(".", none), "'.'([])")
	wantWritten(t, structTerm(".", a, b, none), "'.'(a,b,[])")
	wantWritten(t, structTerm(".", a, b, a, b), "'.'(a,b,a,b)")
	wantWritten(t, structTerm(".", a, b, a, b, none), "'.'(a,b,a,b,[])")
	wantWritten(t, structTerm("..", a, none), "..(a,[])")
	wantWritten(t, atomTerm("."), "'.'")
	wantWritten(t, structTerm("f", atomTerm(".")), "f('.')")
}

func TestWriteOtherStructs(t *testing.T) {
	a, b := atomTerm("a"), atomTerm("b")
	wantWritten(t, structTerm("f", a), "f(a)")
	wantWritten(t, structTerm("f", a, b), "f(a,b)")
	wantWritten(t, structTerm("f", a, b, a), "f(a,b,a)")
	wantWritten(t, structTerm("f", a, b, a, b), "f(a,b,a,b)")
	wantWritten(t, structTerm("f", a, b, a, b, varTerm(9)), "f(a,b,a,b,_9)")
	wantWritten(t, structTerm("f", structTerm("g", structTerm("h", a), b)), "f(g(h(a),b))")
	wantWritten(t, structTerm("X", a, b), "'X'(a,b)")
	wantWritten(t, structTerm("a-b", a), "'a-b'(a)")
	wantWritten(t, structTerm("(", a), "'('(a)")
	wantWritten(t, structTerm(")", a, b), "')'(a,b)")
	wantWritten(t, structTerm("%", a, b), "'%'(a,b)")
	wantWritten(t, structTerm("1", a), "'1'(a)")
	wantWritten(t, structTerm("_", a), "'_'(a)")
	wantWritten(t, structTerm(",", a), "','(a)")
	wantWritten(t, structTerm(",", structTerm(",", a, b)), "','((a , b))")
	wantWritten(t, structTerm(",", a, b, a), "','(a,b,a)")
	wantWritten(t, structTerm(":-", structTerm("p", varTerm(0)), structTerm(",", structTerm(`\+`, structTerm("q", varTerm(0))), structTerm("is", varTerm(2), structTerm("-", varTerm(0), intTerm(-1))))),
		`(p(_0) :- (\+(q(_0)) , (_2 is (_0 - -1))))`)
	wantWritten(t, structTerm("abcdefghijklmnopqrst", structTerm("Abcdefghijklmnopqrst", a)), "abcdefghijklmnopqrst('Abcdefghijklmnopqrst'(a))")
}

// Every name of one byte or two that may be, alone and with Kids.
func TestWriteEveryShortName(t *testing.T) {
	var bytes []string
	for b := byte(33); b <= 126; b++ {
		if b != '\'' && b != '"' {
			bytes = append(bytes, string([]byte{b}))
		}
	}
	names := slices.Clone(bytes)
	for _, x := range bytes {
		for _, y := range bytes {
			names = append(names, x+y)
		}
	}
	a, x := atomTerm("a"), varTerm(2)
	for _, name := range names {
		for _, term := range []impl.Term{atomTerm(name), structTerm(name, atomTerm(name)), structTerm(name, atomTerm(name), x), structTerm(name, x, a, atomTerm(name)), listBefore(atomTerm(name), atomTerm(name)), structTerm("-", atomTerm(name), atomTerm(name))} {
			wantWritten(t, term, writeByRule(term))
		}
	}
}

// oddWithin has a term in each place that a term may have within another one.
func oddWithin(odd impl.Term) []impl.Term {
	a := atomTerm("a")
	out := []impl.Term{odd, structTerm("f", odd), structTerm("f", a, a, a, a, odd), structTerm("f", odd, a), structTerm("-", odd), structTerm("f", structTerm("g", odd, a), a)}
	out = append(out, listTerm(odd), listTerm(odd, a), listTerm(a, odd), listBefore(odd, a), listBefore(odd, a, a), structTerm(".", odd), structTerm(".", a, a, odd))
	for name := range infixByRule {
		out = append(out, structTerm(name, odd, a), structTerm(name, a, odd), structTerm(name, structTerm(name, a, odd), a))
	}
	return out
}

func TestWriteNothingOfWhatIsNotRight(t *testing.T) {
	a := atomTerm("a")
	odds := append(oddTerms(),
		impl.Term{Kind: impl.TmAtom, Name: "[]", Num: 1},
		impl.Term{Kind: impl.TmAtom, Name: "[]", Kids: []impl.Term{a}},
		impl.Term{Kind: impl.TmAtom, Name: "+", Num: 1},
		impl.Term{Kind: impl.TmAtom, Name: "+", Kids: []impl.Term{a, a}},
		impl.Term{Kind: impl.TmAtom, Name: ".", Kids: []impl.Term{a, atomTerm("[]")}},
		impl.Term{Kind: impl.TmStruct, Name: ".", Num: 1, Kids: []impl.Term{a, atomTerm("[]")}},
		impl.Term{Kind: impl.TmStruct, Name: "+", Num: 1, Kids: []impl.Term{a, a}},
		impl.Term{Kind: impl.TmStruct, Name: ".", Kids: []impl.Term{}},
		impl.Term{Kind: impl.TmStruct, Name: "+", Kids: []impl.Term{a, a, a, a, a, a}},
		impl.Term{Kind: impl.TmStruct, Name: "'", Kids: []impl.Term{a, a}},
	)
	for _, odd := range odds {
		wantNotWritten(t, oddWithin(odd)...)
	}
	wantNotWritten(t, deepOdds()...)
	wantNotWritten(t, greatTerms()...)
	for b := range 256 {
		name := string([]byte{'a', byte(b)})
		if b < 33 || b > 126 || b == '\'' || b == '"' {
			wantNotWritten(t, oddWithin(atomTerm(name))...)
			wantNotWritten(t, oddWithin(structTerm(name, a))...)
			wantNotWritten(t, structTerm(name, a, a))
			continue
		}
		wantWritten(t, structTerm(name, atomTerm(name)), writeByRule(structTerm(name, atomTerm(name))))
	}
}

// deepBy has so many terms in one another, each made of the one within.
func deepBy(deep int, around func(impl.Term) impl.Term) impl.Term {
	term := atomTerm("a")
	for range deep - 1 {
		term = around(term)
	}
	return term
}

func TestWriteAsDeepAsMayBe(t *testing.T) {
	a := atomTerm("a")
	arounds := []func(impl.Term) impl.Term{
		func(x impl.Term) impl.Term { return structTerm("f", x) },
		func(x impl.Term) impl.Term { return structTerm("-", x) },
		func(x impl.Term) impl.Term { return structTerm("f", a, x, varTerm(4)) },
		func(x impl.Term) impl.Term { return structTerm(".", x, atomTerm("[]")) },
		func(x impl.Term) impl.Term { return structTerm(".", a, x) },
		func(x impl.Term) impl.Term { return structTerm(".", x, intTerm(-1)) },
	}
	for name := range infixByRule {
		arounds = append(arounds,
			func(x impl.Term) impl.Term { return structTerm(name, x, a) },
			func(x impl.Term) impl.Term { return structTerm(name, a, x) },
			func(x impl.Term) impl.Term { return structTerm(name, atomTerm(name), x) })
	}
	for _, around := range arounds {
		for _, deep := range []int{1, 2, impl.MaxDeep - 1, impl.MaxDeep} {
			term := deepBy(deep, around)
			wantWritten(t, term, writeByRule(term))
		}
		for _, deep := range []int{impl.MaxDeep + 1, impl.MaxDeep + 2, 60, 1000} {
			wantNotWritten(t, deepBy(deep, around))
		}
	}
	// A list of 39 has 39 `.` in one another, and `[]` in the last one.
	items := slices.Repeat([]impl.Term{a}, 200)
	wantWritten(t, listTerm(items[:39]...), "["+strings.Repeat("a,", 38)+"a]")
	wantWritten(t, listBefore(a, items[:39]...), "["+strings.Repeat("a,", 38)+"a|a]")
	wantNotWritten(t, listTerm(items[:40]...), listTerm(items...), listBefore(a, items[:40]...))
}

// pairedTerm has so many terms, an odd number, in infix signs.
func pairedTerm(size int, name string) impl.Term {
	if size == 1 {
		return atomTerm("a")
	}
	left := (size - 1) / 2
	if left%2 == 0 {
		left--
	}
	return structTerm(name, pairedTerm(left, name), pairedTerm(size-1-left, name))
}

func TestWriteAsLargeAsMayBe(t *testing.T) {
	for _, last := range []impl.Term{atomTerm("a"), intTerm(-7), varTerm(99999)} {
		for _, size := range []int{impl.MaxSize - 1, impl.MaxSize} {
			term := wideTerm(size, last)
			wantWritten(t, term, writeByRule(term))
		}
		wantNotWritten(t, wideTerm(impl.MaxSize+1, last), wideTerm(impl.MaxSize+2, last), wideTerm(5000, last))
	}
	for _, name := range append(namesIn(infixByRule), ".") {
		term := pairedTerm(impl.MaxSize-1, name)
		wantWritten(t, term, writeByRule(term))
		term = structTerm("f", term)
		wantWritten(t, term, writeByRule(term))
		wantNotWritten(t, structTerm("f", term), pairedTerm(impl.MaxSize+1, name))
	}
}

// longTerm is written in so many bytes, by names that are as long as that asks for.
func longTerm(bytes int) impl.Term {
	term := wideTerm(impl.MaxSize, atomTerm("a"))
	left := bytes - len(writeByRule(term))
	return lengthened(term, &left)
}

func lengthened(t impl.Term, left *int) impl.Term {
	more := min(*left, 20-len(t.Name))
	t.Name += strings.Repeat("n", more)
	*left -= more
	kids := slices.Clone(t.Kids)
	for i := range kids {
		kids[i] = lengthened(kids[i], left)
	}
	t.Kids = kids
	return t
}

// What is longer than a text may be is written all the same; it can't be read, as no such text has signs.
func TestWriteLongTexts(t *testing.T) {
	for _, bytes := range []int{2000, impl.MaxSource - 3, impl.MaxSource - 2, impl.MaxSource - 1, impl.MaxSource, impl.MaxSource + 1, 5000, 8000} {
		term := longTerm(bytes)
		text := writeByRule(term)
		if len(text) != bytes {
			t.Fatalf("%d bytes, not %d", len(text), bytes)
		}
		wantWritten(t, term, text)
		if got := reads(text); got != (bytes+2 <= impl.MaxSource) {
			t.Errorf("a text of %d bytes is read: %t", bytes, got)
		}
	}
}

// drawnRight is a right term of any names and numbers, with signs in many places.
func drawnRight(r *rand.Rand, deep int) impl.Term {
	for {
		if term := drawnAny(r, deep); impl.TermOk(term) {
			return term
		}
	}
}

func drawnAny(r *rand.Rand, deep int) impl.Term {
	k := r.Intn(12)
	if deep <= 1 {
		k = r.Intn(5)
	}
	switch {
	case k < 1:
		return varTerm([]int{r.Intn(3), r.Intn(100000)}[r.Intn(2)])
	case k < 2:
		return intTerm(r.Intn(2*impl.MaxInt+1) - impl.MaxInt)
	case k < 3:
		return atomTerm(drawnName(r))
	case k < 7:
		return drawnSigned(r, min(deep, 3))
	}
	kids := make([]impl.Term, []int{1, 2, 2, 2, 3, 4, 5}[r.Intn(7)])
	for i := range kids {
		kids[i] = drawnAny(r, deep-1)
	}
	names := append(namesIn(infixByRule), `\+`, ".", ".", ".", "[]", drawnName(r), drawnName(r), drawnName(r))
	return structTerm(names[r.Intn(len(names))], kids...)
}

func TestWriteIsTheDocumentsRule(t *testing.T) {
	for _, term := range rightTerms() {
		wantWritten(t, term, writeByRule(term))
	}
	r := rand.New(rand.NewSource(72))
	large := 0
	for i := range 30000 {
		term := drawnRight(r, 1+i%6)
		wantWritten(t, term, writeByRule(term))
		if countTerms(term) > 30 {
			large++
		}
	}
	if large < 500 {
		t.Errorf("only %d terms are large", large)
	}
}

func TestWhatIsWrittenIsReadAgain(t *testing.T) {
	r := rand.New(rand.NewSource(73))
	read := 0
	for i := range 30000 {
		term := drawnSigned(r, 1+i%8)
		if i%2 == 0 {
			term = drawnRight(r, 1+i%7)
		}
		if !impl.TermOk(term) || len(impl.WriteTerm(term))+2 > impl.MaxSource {
			continue
		}
		wantReadAgain(t, term)
		again, _, _ := impl.ReadTerm(impl.WriteTerm(term) + " .")
		if got, want := impl.WriteTerm(again), impl.WriteTerm(namedByPlace(term, map[int]int{})); got != want {
			t.Fatalf("%s, read again, is written %q; want %q", shown(term), got, want)
		}
		read++
	}
	if read < 20000 {
		t.Errorf("only %d terms are read again", read)
	}
}

// Many terms stand in one file, one behind the other.
func TestWhatIsWrittenIsReadAgainFromAFile(t *testing.T) {
	r := rand.New(rand.NewSource(74))
	for range 500 {
		var text string
		var terms []impl.Term
		for range 20 {
			term := drawnRight(r, 1+r.Intn(4))
			if more := impl.WriteTerm(term) + " .\n"; len(text)+len(more) <= impl.MaxSource {
				text += more
				terms = append(terms, term)
			}
		}
		got, bad := impl.ReadAll(text)
		if bad != 0 || !slices.EqualFunc(got, terms, impl.Variant) {
			t.Fatalf("of %d terms %d are read again from %q, %d ended false", len(terms), len(got), text, bad)
		}
	}
}

// What was read, however it was written, is written and read again.
func TestWhatWasReadIsWritten(t *testing.T) {
	r := rand.New(rand.NewSource(75))
	for range 10000 {
		_, text, _ := drawnWritten(r, 1+r.Intn(5))
		term, _, ok := impl.ReadTerm(text + " .")
		if !ok {
			continue
		}
		wantWritten(t, term, writeByRule(term))
	}
	for text, want := range map[string]string{
		"p(X, [a|Y]) :- \\+ q(X), X = -3 + 2 * Y ; ! .": `(p(_0,[a|_1]) :- ((\+(q(_0)) , (_0 = (-3 + (2 * _1)))) ; !))`,
		"f(A, [1, b|A], -2, (+), a + b) .":              "f(_0,[1,b|_0],-2,(+),(a + b))",
		"- 1 .":                                         "-(1)",
		"-1 .":                                          "-1",
		"'-'(1) .":                                      "-(1)",
		"a- -1 .":                                       "(a - -1)",
		"'a' .":                                         "a",
		"'A'('b', 'C') .":                               "'A'(b,'C')",
		"'[]' .":                                        "[]",
		"[ ] .":                                         "[]",
		"'.'(a, '.'(b, [])) .":                          "[a,b]",
		"[a|[b|[c]]] .":                                 "[a,b,c]",
		"f(_, _, X, _) .":                               "f(_0,_1,_2,_3)",
		"a --> b, [c], do(d) .":                         "(a --> (b , ([c] , do(d))))",
		":- a, b .":                                     ":-((a , b))",
		"','(a, b) .":                                   "(a , b)",
		"(',') .":                                       "(',')",
	} {
		term, _, ok := impl.ReadTerm(text)
		if got := impl.WriteTerm(term); !ok || got != want {
			t.Errorf("%q is written %q, %t; want %q", text, got, ok, want)
		}
	}
}

func TestWriteAnswersNewMemory(t *testing.T) {
	for _, name := range []string{"a", "abc", "longer_name_of_bytes", "=..", "!", ";", ",", "[]", "-", "is", "Quoted", "", "a b", strings.Repeat("x", 5000), "'a'"} {
		asked := strings.Clone(name)
		if got := impl.AtomText(asked); asked != "" && shares(asked, got) {
			t.Errorf("AtomText(%.40q) answers what it was asked with", name)
		}
		for _, term := range []impl.Term{atomTerm(asked), structTerm(asked, intTerm(1)), structTerm(asked, intTerm(1), intTerm(2))} {
			if got := impl.WriteTerm(term); got != "" && asked != "" && shares(asked, got) {
				t.Errorf("WriteTerm(%s) shares a Name", shown(term))
			}
		}
	}
}

func TestWriteLeavesTermsAsTheyAre(t *testing.T) {
	r := rand.New(rand.NewSource(76))
	all := slices.Concat(rightTerms(), oddTerms(), deepOdds())
	for range 2000 {
		all = append(all, drawnSigned(r, 5), drawnRight(r, 5))
	}
	for i, term := range all {
		asked := withSpare(term)
		one, other := impl.WriteTerm(asked), impl.WriteTerm(asked)
		if !equalTerms(asked, term) || !spareUntouched(asked) {
			t.Fatalf("term %d was written into", i)
		}
		if one != other || one != impl.WriteTerm(term) {
			t.Fatalf("term %d is written otherwise when asked again", i)
		}
	}
	// An empty list is as nil.
	for _, term := range []impl.Term{varTerm(1), intTerm(2), atomTerm("a"), atomTerm("[]"), atomTerm("-")} {
		empty := term
		empty.Kids = []impl.Term{}
		if impl.WriteTerm(empty) != writeByRule(term) || impl.WriteTerm(listTerm(empty)) != writeByRule(listTerm(term)) || impl.WriteTerm(listBefore(empty, empty)) != writeByRule(listBefore(term, term)) {
			t.Errorf("%s with an empty list is written %q", shown(term), impl.WriteTerm(empty))
		}
	}
}

func TestWriteHangsOnWhatIsAskedAlone(t *testing.T) {
	terms := []impl.Term{listTerm(varTerm(4), atomTerm("X")), structTerm("f"), structTerm("=", varTerm(0), varTerm(4)), {}, atomTerm("-"), structTerm(",", atomTerm(","), atomTerm("a"))}
	first := ""
	for i := range 20 {
		told := ""
		for _, term := range terms {
			told += impl.WriteTerm(term) + "\n" + impl.AtomText(term.Name) + "\n"
		}
		if i == 0 {
			first = told
		}
		if told != first {
			t.Fatal("written otherwise when asked again")
		}
	}
}
