package tests

import (
	"fmt"
	"math"
	"math/rand"
	"slices"
	"strings"
	"testing"

	"loop.example/g00469/impl"
)

// The predicates that the document lists, once more.
var controlByRule = strings.Fields(`true/0 fail/0 !/0 ,/2 ;/2 ->/2 \+/1 call/1 call/2 call/3 catch/3 throw/1 =/2 \=/2 ==/2 is/2 </2 =:=/2 var/1 atom/1 write/1 assertz/1 retract/1 :-/2 :-/1 -->/2`)

const maxOpen = 40

func predByRule(t impl.Term) string {
	if t.Kind == impl.TmAtom || t.Kind == impl.TmStruct {
		return fmt.Sprintf("%s/%d", t.Name, len(t.Kids))
	}
	return ""
}

func headByRule(pred string) bool { return pred != "" && !slices.Contains(controlByRule, pred) }

// headOf is a term of that predicate.
func headOf(pred string) impl.Term {
	at := strings.LastIndexByte(pred, '/')
	many, ok := impl.ReadDecimal(pred[at+1:])
	if !ok {
		panic(pred)
	}
	if many == 0 {
		return atomTerm(pred[:at])
	}
	return structTerm(pred[:at], slices.Repeat([]impl.Term{varTerm(0)}, many)...)
}

func ifTerm(head, body impl.Term) impl.Term { return structTerm(":-", head, body) }

func clauseByRule(t impl.Term, file string) (impl.Clause, bool) {
	if !impl.TermOk(t) {
		return impl.Clause{}, false
	}
	c := impl.Clause{Head: t, Body: atomTerm("true"), File: file}
	if t.Kind == impl.TmStruct && t.Name == ":-" && len(t.Kids) == 2 {
		c.Head, c.Body = t.Kids[0], t.Kids[1]
		if c.Body.Kind == impl.TmVar {
			c.Body = structTerm("call", c.Body)
		}
	}
	if !headByRule(predByRule(c.Head)) {
		return impl.Clause{}, false
	}
	return c, true
}

func dbOkByRule(d impl.Db) bool {
	for _, c := range d.Clauses {
		if !impl.TermOk(c.Head) || !impl.TermOk(c.Body) || !headByRule(predByRule(c.Head)) {
			return false
		}
	}
	return len(d.Clauses) <= 120 && len(d.Open) <= maxOpen
}

func clausesByRule(d impl.Db, pred string) []impl.Clause {
	var list []impl.Clause
	for _, c := range d.Clauses {
		if predByRule(c.Head) == pred {
			list = append(list, c)
		}
	}
	return list
}

func equalClause(a, b impl.Clause) bool {
	return equalTerms(a.Head, b.Head) && equalTerms(a.Body, b.Body) && a.File == b.File
}

func equalClauses(a, b []impl.Clause) bool { return slices.EqualFunc(a, b, equalClause) }

func equalDbs(a, b impl.Db) bool {
	return equalClauses(a.Clauses, b.Clauses) && slices.Equal(a.Open, b.Open)
}

func copyClause(c impl.Clause) impl.Clause {
	return impl.Clause{Head: deepCopy(c.Head), Body: deepCopy(c.Body), File: c.File}
}

func copyClauses(list []impl.Clause) []impl.Clause {
	var out []impl.Clause
	for _, c := range list {
		out = append(out, copyClause(c))
	}
	return out
}

func copyDb(d impl.Db) impl.Db {
	return impl.Db{Clauses: copyClauses(d.Clauses), Open: slices.Clone(d.Open)}
}

func shownClause(c impl.Clause) string {
	return fmt.Sprintf("{%s :- %s in %.20q}", shown(c.Head), shown(c.Body), c.File)
}

func shownClauses(list []impl.Clause) string {
	var all []string
	for _, c := range list[:min(8, len(list))] {
		all = append(all, shownClause(c))
	}
	return fmt.Sprintf("%d%s", len(list), all)
}

func shownDb(d impl.Db) string {
	return fmt.Sprintf("%s, %d open %.80q", shownClauses(d.Clauses), len(d.Open), d.Open)
}

// factOf is a clause that holds by itself, whose number tells which one it is.
func factOf(name string, n int) impl.Clause {
	return impl.Clause{Head: structTerm(name, intTerm(n)), Body: atomTerm("true"), File: "f"}
}

// dbOf has so many clauses of some predicates between one another, and so many names that are Open.
func dbOf(clauses, open int) impl.Db {
	var d impl.Db
	for i := range clauses {
		d.Clauses = append(d.Clauses, factOf([]string{"p", "q", "r"}[i%3], i))
	}
	for i := range open {
		d.Open = append(d.Open, fmt.Sprintf("open%d/0", i))
	}
	return d
}

// readClauses are those of a text whose terms are all told as clauses.
func readClauses(t *testing.T, text, file string) impl.Db {
	t.Helper()
	terms, bad := impl.ReadAll(text)
	var d impl.Db
	for _, term := range terms {
		c, told := impl.ClauseOf(term, file)
		with, added := impl.Added(d, c)
		if bad != 0 || !told || !added {
			t.Fatalf("%q: %d ended false; %s: %t, %t", text, bad, shown(term), told, added)
		}
		d = with
	}
	return d
}

func TestMaxClausesIsTheDocuments(t *testing.T) {
	if impl.MaxClauses != 120 {
		t.Error("MaxClauses is another one")
	}
}

func wantPred(t *testing.T, term impl.Term, want string) {
	t.Helper()
	if got := impl.PredOf(term); got != want {
		t.Errorf("PredOf(%s) = %q; want %q", shown(term), got, want)
	}
}

func TestPredOfNamesAndStructs(t *testing.T) {
	a := atomTerm("a")
	kids := slices.Repeat([]impl.Term{a}, 300)
	wantPred(t, a, "a/0")
	wantPred(t, atomTerm("[]"), "[]/0")
	wantPred(t, atomTerm("true"), "true/0")
	wantPred(t, structTerm("f", a), "f/1")
	wantPred(t, structTerm("f", varTerm(1), intTerm(2)), "f/2")
	wantPred(t, structTerm(":-", a, a), ":-/2")
	wantPred(t, structTerm("/", a, intTerm(1)), "//2")
	wantPred(t, structTerm("a/1", a, a), "a/1/2")
	wantPred(t, structTerm("f", structTerm("g", a, a, a)), "f/1")
	wantPred(t, structTerm("f", kids[:5]...), "f/5")
	for _, many := range []int{0, 1, 2, 6, 9, 10, 11, 99, 100, 300} {
		wantPred(t, structTerm("f", kids[:many]...), fmt.Sprintf("f/%d", many))
		wantPred(t, impl.Term{Kind: impl.TmAtom, Name: "f", Kids: kids[:many]}, fmt.Sprintf("f/%d", many))
		wantPred(t, structTerm("", kids[:many]...), fmt.Sprintf("/%d", many))
	}
	wantPred(t, atomTerm(""), "/0")
	wantPred(t, impl.Term{Kind: impl.TmStruct, Name: "f"}, "f/0")
	wantPred(t, impl.Term{Kind: impl.TmStruct, Name: "f", Num: 7, Kids: kids[:2]}, "f/2")
	wantPred(t, impl.Term{Kind: impl.TmAtom, Name: "f", Num: -7}, "f/0")
	wantPred(t, impl.Term{Kind: impl.TmAtom, Name: "f", Kids: []impl.Term{}}, "f/0")
	for _, name := range []string{"a b", "'", "\x00", "\xff", "é", strings.Repeat("n", 21), strings.Repeat("n", 5000)} {
		wantPred(t, atomTerm(name), name+"/0")
		wantPred(t, structTerm(name, a), name+"/1")
	}
}

func TestPredOfOthersIsEmpty(t *testing.T) {
	kids := []impl.Term{atomTerm("a")}
	for _, kind := range []int{impl.TmVar, impl.TmInt, 0, 5, 6, -1, -2, -4, 100, math.MaxInt, math.MinInt} {
		wantPred(t, impl.Term{Kind: kind}, "")
		wantPred(t, impl.Term{Kind: kind, Num: 3}, "")
		wantPred(t, impl.Term{Kind: kind, Name: "f", Kids: kids}, "")
	}
}

func TestPredOfIsTheDocumentsRule(t *testing.T) {
	for _, term := range slices.Concat(rightTerms(), oddTerms(), deepOdds(), greatTerms()) {
		wantPred(t, term, predByRule(term))
	}
	r := rand.New(rand.NewSource(80))
	for range 5000 {
		term := drawnAny(r, 3)
		wantPred(t, term, predByRule(term))
	}
}

func wantControlByRule(t *testing.T, pred string) {
	t.Helper()
	if got, want := impl.Control(pred), slices.Contains(controlByRule, pred); got != want {
		t.Errorf("Control(%q) = %t; want %t", pred, got, want)
	}
}

func TestControlIsTheDocumentsList(t *testing.T) {
	if len(controlByRule) != 26 {
		t.Fatal("not the list of the document")
	}
	for _, pred := range controlByRule {
		if !impl.Control(pred) {
			t.Errorf("Control(%q) is false", pred)
		}
		if head := headOf(pred); !impl.Control(impl.PredOf(head)) {
			t.Errorf("Control of PredOf(%s) is false", shown(head))
		}
		name := pred[:strings.LastIndexByte(pred, '/')]
		for _, number := range []string{"0", "1", "2", "3", "4", "5", "6", "10", "11", "12", "20", "00", "01", "02", "03", "-1", "+1", "", " 1", "x"} {
			wantControlByRule(t, name+"/"+number)
		}
		wantControlByRule(t, name)
	}
	for _, pred := range []string{"", "/", "/0", "/1", "/2", "p/0", "p/1", "//2", "*/2", "+/2", "-/1", "-/2", "[]/0", "./2", "call/4", "call/0", "true/1", "fail/1", "do/1", "expand/2", "retract/2", "assertz/0", "TRUE/0", "Call/1", "not/1", "nl/0", ">/2", "=</2"} {
		if impl.Control(pred) {
			t.Errorf("Control(%q) is true", pred)
		}
	}
}

// Some of them are others of the list: `->/2` is `-->/2` with a byte less.
func TestControlWithAByteMoreOrLess(t *testing.T) {
	bytes := allBytes()
	for _, pred := range controlByRule {
		for at := range len(pred) + 1 {
			for b := range 256 {
				wantControlByRule(t, pred[:at]+bytes[b:b+1]+pred[at:])
				if at < len(pred) {
					wantControlByRule(t, pred[:at]+bytes[b:b+1]+pred[at+1:])
				}
			}
			if at < len(pred) {
				wantControlByRule(t, pred[:at]+pred[at+1:])
			}
			wantControlByRule(t, pred[:at])
			wantControlByRule(t, pred[at:])
		}
		wantControlByRule(t, pred+pred)
		wantControlByRule(t, strings.Repeat(pred, 10000))
		wantControlByRule(t, strings.ToUpper(pred))
	}
}

func wantClause(t *testing.T, term impl.Term, file string, head, body impl.Term) {
	t.Helper()
	want := impl.Clause{Head: head, Body: body, File: file}
	if got, ok := impl.ClauseOf(term, file); !ok || !equalClause(got, want) {
		t.Errorf("ClauseOf(%s, %.40q) = %s, %t; want %s", shown(term), file, shownClause(got), ok, shownClause(want))
	}
}

func wantNoClause(t *testing.T, terms ...impl.Term) {
	t.Helper()
	for _, term := range terms {
		for _, file := range []string{"", "f"} {
			if got, ok := impl.ClauseOf(term, file); ok || !equalClause(got, impl.Clause{}) {
				t.Errorf("ClauseOf(%s, %q) = %s, %t; want nothing, false", shown(term), file, shownClause(got), ok)
			}
		}
	}
}

func wantClauseByRule(t *testing.T, term impl.Term, file string) bool {
	t.Helper()
	got, ok := impl.ClauseOf(term, file)
	want, may := clauseByRule(term, file)
	if ok != may || !equalClause(got, want) {
		t.Fatalf("ClauseOf(%s, %q) = %s, %t; want %s, %t", shown(term), file, shownClause(got), ok, shownClause(want), may)
	}
	return ok
}

func TestClauseOfHeadsAndBodies(t *testing.T) {
	a, x, is := atomTerm("a"), varTerm(3), atomTerm("true")
	p := structTerm("p", x, a)
	for _, head := range []impl.Term{a, p, structTerm("p", x), atomTerm("[]"), atomTerm("!!"), structTerm("f", a, a, a, a, a), atomTerm("call"), structTerm("call", a, a, a, a), structTerm("-", a), structTerm("+", a, a), structTerm(".", a, x)} {
		wantClause(t, head, "f", head, is)
		for _, body := range []impl.Term{a, is, atomTerm("fail"), atomTerm("!"), atomTerm("[]"), intTerm(0), intTerm(-7), structTerm("q", x), structTerm(",", a, structTerm("q", x)), structTerm("call", x), structTerm(`\+`, x), p} {
			wantClause(t, ifTerm(head, body), "f", head, body)
		}
		for _, n := range []int{0, 3, 4, 99999} {
			wantClause(t, ifTerm(head, varTerm(n)), "f", head, structTerm("call", varTerm(n)))
		}
		// A name that is not the whole body stays as it is.
		for _, body := range []impl.Term{structTerm(",", x, x), structTerm(";", a, x), structTerm("->", x, a), structTerm("call", structTerm("call", x))} {
			wantClause(t, ifTerm(head, body), "f", head, body)
		}
	}
}

func TestClauseOfWhatReadsAsAClause(t *testing.T) {
	for text, want := range map[string][2]string{
		"p.":                         {"p", "true"},
		"p(X, Y).":                   {"p(X, Y)", "true"},
		"p :- q.":                    {"p", "q"},
		"p(X) :- q(X, Y), \\+ r(Y).": {"p(X)", "q(X, Y), \\+ r(Y)"},
		"p(X) :- X.":                 {"p(X)", "call(X)"},
		"p(X, _) :- _.":              {"p(X, _)", "call(X)"},
		"p :- true.":                 {"p", "true"},
		"p :- 7.":                    {"p", "7"},
		"p :- (q :- r).":             {"p", "(q :- r)"},
		"p :- (:- q).":               {"p", "(:- q)"},
		"p :- (q --> r).":            {"p", "(q --> r)"},
		"(p :- X) .":                 {"p", "call(X)"},
		"'p q'.":                     {"", ""},
		"p ; q.":                     {"", ""},
		"p, q.":                      {"", ""},
		"p --> q.":                   {"", ""},
		":- p.":                      {"", ""},
		"(p :- q) :- r.":             {"", ""},
		"X.":                         {"", ""},
		"X :- p.":                    {"", ""},
		"X :- X.":                    {"", ""},
		"7.":                         {"", ""},
		"-7 :- p.":                   {"", ""},
		"true.":                      {"", ""},
		"true :- p.":                 {"", ""},
		"call(X) :- X.":              {"", ""},
		":-(p, q, r).":               {":-(p, q, r)", "true"},
		":-(p, q, r) :- s.":          {":-(p, q, r)", "s"},
		"(:-) :- p.":                 {"(:-)", "p"},
		"(:-).":                      {"(:-)", "true"},
		"(p --> q) :- r.":            {"", ""},
		"-->(p, q, r).":              {"-->(p, q, r)", "true"},
		"[p, q].":                    {"[p, q]", "true"},
		"p + q :- r.":                {"p + q", "r"},
	} {
		term, _, _ := impl.ReadTerm(text)
		if want[0] == "" {
			wantNoClause(t, term)
			continue
		}
		head, _, one := impl.ReadTerm(want[0] + " .")
		body, _, other := impl.ReadTerm(want[1] + " .")
		if !one || !other {
			t.Fatal(want)
		}
		got, ok := impl.ClauseOf(term, "f")
		if !ok || !impl.Variant(got.Head, head) || !impl.Variant(got.Body, body) || got.File != "f" {
			t.Errorf("ClauseOf(%q) = %s, %t; want %q", text, shownClause(got), ok, want)
		}
	}
}

func TestClauseOfNumbersOfKids(t *testing.T) {
	a, b, c := atomTerm("a"), atomTerm("b"), atomTerm("c")
	wantNoClause(t, structTerm(":-", a))
	wantNoClause(t, structTerm(":-", varTerm(0)))
	wantClause(t, atomTerm(":-"), "f", atomTerm(":-"), atomTerm("true"))
	wantClause(t, structTerm(":-", a, b), "f", a, b)
	for _, head := range []impl.Term{structTerm(":-", a, b, c), structTerm(":-", varTerm(1), b, varTerm(2)), structTerm(":-", a, b, c, a), structTerm(":-", a, b, c, a, b)} {
		wantClause(t, head, "f", head, atomTerm("true"))
		wantClause(t, ifTerm(head, varTerm(1)), "f", head, structTerm("call", varTerm(1)))
	}
	// A `:-` that stands in a body, or within a head, is a term as others are.
	inside := ifTerm(a, b)
	wantClause(t, ifTerm(a, inside), "f", a, inside)
	wantClause(t, ifTerm(a, ifTerm(varTerm(1), varTerm(2))), "f", a, ifTerm(varTerm(1), varTerm(2)))
	wantClause(t, structTerm("p", inside), "f", structTerm("p", inside), atomTerm("true"))
	wantClause(t, ifTerm(structTerm("p", inside), inside), "f", structTerm("p", inside), inside)
	wantNoClause(t, ifTerm(inside, a), ifTerm(structTerm(":-", a), a), ifTerm(structTerm("-->", a, b), a))
	for _, name := range []string{":", ":--", "-->", "-", ":-:-", "'", ": -"} {
		wantClauseByRule(t, structTerm(name, a, b), "f")
	}
	wantClause(t, structTerm(":--", a, b), "f", structTerm(":--", a, b), atomTerm("true"))
}

func TestClauseOfHeadsThatMayNotBe(t *testing.T) {
	a, x := atomTerm("a"), varTerm(0)
	heads := []impl.Term{x, varTerm(99999), intTerm(0), intTerm(1), intTerm(-impl.MaxInt)}
	for _, pred := range controlByRule {
		heads = append(heads, headOf(pred))
	}
	for _, head := range heads {
		for _, body := range []impl.Term{a, x, intTerm(1), atomTerm("true"), structTerm(",", a, a)} {
			wantNoClause(t, ifTerm(head, body))
		}
		if pred := impl.PredOf(head); pred != ":-/2" {
			wantNoClause(t, head)
		}
		// In a body they may be.
		if head.Kind != impl.TmVar {
			wantClause(t, ifTerm(a, head), "f", a, head)
		}
	}
	// With another number they may be, too.
	for _, pred := range controlByRule {
		name := pred[:strings.LastIndexByte(pred, '/')]
		for many := range 6 {
			head := headOf(fmt.Sprintf("%s/%d", name, many))
			if impl.PredOf(head) == ":-/2" {
				continue
			}
			if slices.Contains(controlByRule, impl.PredOf(head)) {
				wantNoClause(t, head, ifTerm(head, a))
			} else {
				wantClause(t, head, "f", head, atomTerm("true"))
				wantClause(t, ifTerm(head, x), "f", head, structTerm("call", x))
			}
		}
	}
}

func TestClauseOfWhatIsNotRight(t *testing.T) {
	a := atomTerm("a")
	wantNoClause(t, oddTerms()...)
	wantNoClause(t, deepOdds()...)
	wantNoClause(t, greatTerms()...)
	for _, odd := range slices.Concat(oddTerms(), deepOdds(), greatTerms()) {
		wantNoClause(t, ifTerm(a, odd), ifTerm(odd, a), ifTerm(a, structTerm(",", a, odd)), ifTerm(structTerm("p", odd), a))
	}
	for _, odd := range []impl.Term{
		{Kind: impl.TmStruct, Name: ":-", Num: 1, Kids: []impl.Term{a, a}},
		{Kind: impl.TmAtom, Name: ":-", Kids: []impl.Term{a, a}},
		{Kind: impl.TmVar, Name: ":-", Kids: []impl.Term{a, a}},
		{Kind: 0, Name: ":-", Kids: []impl.Term{a, a}},
		{Kind: 5, Name: ":-", Kids: []impl.Term{a, a}},
		{Kind: impl.TmStruct, Name: ":-"},
		{Kind: impl.TmStruct, Name: ":-", Kids: []impl.Term{a, a, a, a, a, a}},
	} {
		wantNoClause(t, odd)
	}
}

func TestClauseOfHoldsItsLimits(t *testing.T) {
	a, x, is := atomTerm("a"), varTerm(7), atomTerm("true")
	called := structTerm("call", x)
	for _, last := range []impl.Term{a, x, intTerm(3)} {
		wantClause(t, wideTerm(400, last), "f", wideTerm(400, last), is)
		wantClause(t, chainTerm(40, last), "f", chainTerm(40, last), is)
		wantNoClause(t, wideTerm(401, last), chainTerm(41, last))
		wantClause(t, ifTerm(a, wideTerm(398, last)), "f", a, wideTerm(398, last))
		wantClause(t, ifTerm(a, chainTerm(39, last)), "f", a, chainTerm(39, last))
		wantNoClause(t, ifTerm(a, wideTerm(399, last)), ifTerm(a, chainTerm(40, last)))
		wantClause(t, ifTerm(wideTerm(200, last), wideTerm(199, last)), "f", wideTerm(200, last), wideTerm(199, last))
		wantNoClause(t, ifTerm(wideTerm(200, last), wideTerm(200, last)))
		// The `call` of a name is one more than was told.
		wantClause(t, ifTerm(wideTerm(397, last), x), "f", wideTerm(397, last), called)
		wantClause(t, ifTerm(wideTerm(398, last), x), "f", wideTerm(398, last), called)
		wantNoClause(t, ifTerm(wideTerm(399, last), x), ifTerm(wideTerm(400, last), x))
		wantClause(t, ifTerm(chainTerm(38, last), x), "f", chainTerm(38, last), called)
		wantClause(t, ifTerm(chainTerm(39, last), x), "f", chainTerm(39, last), called)
		wantNoClause(t, ifTerm(chainTerm(40, last), x), ifTerm(chainTerm(41, last), x))
	}
	wantClause(t, ifTerm(a, varTerm(99999)), "f", a, structTerm("call", varTerm(99999)))
	wantNoClause(t, ifTerm(a, varTerm(100000)), ifTerm(a, varTerm(-1)))
	long := strings.Repeat("n", 20)
	wantClause(t, ifTerm(atomTerm(long), atomTerm(long)), "f", atomTerm(long), atomTerm(long))
	wantNoClause(t, atomTerm(long+"n"), ifTerm(atomTerm(long+"n"), a), ifTerm(a, atomTerm(long+"n")))
}

func TestClauseOfAnyFile(t *testing.T) {
	p, x := structTerm("p", varTerm(0)), varTerm(0)
	for _, file := range []string{"", "f", "abcdefgh", "abcdefghi", "A file", "\x00", "\xff\xfe", "é", "true", strings.Repeat("f", 5000)} {
		wantClause(t, p, file, p, atomTerm("true"))
		wantClause(t, ifTerm(p, x), file, p, structTerm("call", x))
		wantClause(t, ifTerm(p, p), file, p, p)
	}
}

// drawnClauseTerm is a term that is often a clause, and sometimes not.
func drawnClauseTerm(r *rand.Rand) impl.Term {
	head := drawnHead(r)
	switch r.Intn(8) {
	case 0:
		return head
	case 1:
		return ifTerm(head, varTerm(r.Intn(4)))
	case 2:
		return structTerm(":-", drawnHead(r))
	case 3:
		return structTerm([]string{":-", "-->", ",", "p"}[r.Intn(4)], head, drawnHead(r), varTerm(1))
	case 4:
		return drawnAny(r, 3)
	}
	return ifTerm(head, drawnSigned(r, 1+r.Intn(4)))
}

// drawnHead is of few predicates, so that some are alike; now and then it is none that may be a head, or is not right.
func drawnHead(r *rand.Rand) impl.Term {
	odds := oddTerms()
	switch r.Intn(12) {
	case 0:
		return headOf(controlByRule[r.Intn(len(controlByRule))])
	case 1:
		return []impl.Term{varTerm(r.Intn(3)), intTerm(r.Intn(3))}[r.Intn(2)]
	case 2:
		if r.Intn(3) == 0 {
			return odds[r.Intn(len(odds))]
		}
		return drawnRight(r, 2)
	}
	return drawnPlainHead(r)
}

func drawnPlainHead(r *rand.Rand) impl.Term {
	name := []string{"p", "q", "r"}[r.Intn(3)]
	kids := make([]impl.Term, r.Intn(3))
	for i := range kids {
		kids[i] = drawnRight(r, 2)
	}
	if len(kids) == 0 {
		return atomTerm(name)
	}
	return structTerm(name, kids...)
}

func TestClauseOfIsTheDocumentsRule(t *testing.T) {
	for _, term := range rightTerms() {
		wantClauseByRule(t, term, "f")
		wantClauseByRule(t, ifTerm(term, atomTerm("a")), "f")
		wantClauseByRule(t, ifTerm(atomTerm("a"), term), "f")
	}
	r := rand.New(rand.NewSource(81))
	told, not := 0, 0
	for i := range 30000 {
		if wantClauseByRule(t, drawnClauseTerm(r), []string{"", "f", "other"}[i%3]) {
			told++
		} else {
			not++
		}
	}
	if told < 5000 || not < 5000 {
		t.Errorf("%d are clauses, %d are not", told, not)
	}
}

func wantClauseTerm(t *testing.T, c impl.Clause) {
	t.Helper()
	if got, want := impl.ClauseTerm(c), ifTerm(c.Head, c.Body); !equalTerms(got, want) {
		t.Errorf("ClauseTerm(%s) = %s; want %s", shownClause(c), shown(got), shown(want))
	}
}

func TestClauseTermIsOfBoth(t *testing.T) {
	a, x := atomTerm("a"), varTerm(3)
	wantClauseTerm(t, impl.Clause{})
	wantClauseTerm(t, impl.Clause{Head: a, Body: atomTerm("true")})
	wantClauseTerm(t, impl.Clause{Head: a, Body: x, File: "f"})
	wantClauseTerm(t, impl.Clause{Head: a, Body: structTerm("call", x), File: "f"})
	wantClauseTerm(t, impl.Clause{Head: x, Body: a})
	wantClauseTerm(t, impl.Clause{Head: ifTerm(a, a), Body: ifTerm(a, a)})
	wantClauseTerm(t, impl.Clause{Head: a})
	wantClauseTerm(t, impl.Clause{Body: a})
	for _, file := range []string{"", "f", strings.Repeat("f", 5000)} {
		wantClauseTerm(t, impl.Clause{Head: a, Body: structTerm("q", x), File: file})
	}
	some := slices.Concat(rightTerms(), oddTerms(), deepOdds())
	for i, one := range some {
		wantClauseTerm(t, impl.Clause{Head: one, Body: some[(i*7+3)%len(some)]})
		wantClauseTerm(t, impl.Clause{Head: a, Body: one})
		wantClauseTerm(t, impl.Clause{Head: one, Body: a})
	}
	// Both are right, though the `:-` of both is not.
	for _, big := range []impl.Term{wideTerm(400, x), chainTerm(40, x), wideTerm(399, a)} {
		c := impl.Clause{Head: big, Body: big, File: "f"}
		wantClauseTerm(t, c)
		if impl.TermOk(impl.ClauseTerm(c)) {
			t.Errorf("ClauseTerm of %s is right", shownClause(c))
		}
	}
}

func TestClauseTermOfGreatTerms(t *testing.T) {
	a := atomTerm("a")
	for i, great := range greatTerms() {
		got := impl.ClauseTerm(impl.Clause{Head: great, Body: a})
		if !impl.SameTerm(got, ifTerm(great, a)) {
			t.Errorf("ClauseTerm of great head %d is another one", i)
		}
		got = impl.ClauseTerm(impl.Clause{Head: a, Body: great})
		if !impl.SameTerm(got, ifTerm(a, great)) {
			t.Errorf("ClauseTerm of great body %d is another one", i)
		}
	}
}

func TestClauseTermOfWhatClauseOfTold(t *testing.T) {
	r := rand.New(rand.NewSource(82))
	for range 5000 {
		if c, ok := impl.ClauseOf(drawnClauseTerm(r), "f"); ok {
			wantClauseTerm(t, c)
		}
		wantClauseTerm(t, impl.Clause{Head: drawnHead(r), Body: drawnAny(r, 3), File: "f"})
	}
}

func wantDb(t *testing.T, d impl.Db, want bool, what string) {
	t.Helper()
	if got := impl.DbOk(d); got != want {
		t.Errorf("DbOk of %s = %t; want %t", what, got, want)
	}
}

func TestDbOkHoldsItsLimits(t *testing.T) {
	wantDb(t, impl.Db{}, true, "nothing at all")
	wantDb(t, impl.Db{Clauses: []impl.Clause{}, Open: []string{}}, true, "empty lists")
	for _, many := range []int{0, 1, 2, 119, 120} {
		wantDb(t, dbOf(many, 0), true, fmt.Sprint(many, " clauses"))
		wantDb(t, dbOf(many, 40), true, fmt.Sprint(many, " clauses and 40 of Open"))
		wantDb(t, dbOf(many, 41), false, fmt.Sprint(many, " clauses and 41 of Open"))
	}
	for _, many := range []int{121, 122, 240, 10000} {
		wantDb(t, dbOf(many, 0), false, fmt.Sprint(many, " clauses"))
		wantDb(t, dbOf(many, 40), false, fmt.Sprint(many, " clauses and 40 of Open"))
	}
	for _, many := range []int{1, 39, 40} {
		wantDb(t, dbOf(0, many), true, fmt.Sprint(many, " of Open"))
	}
	for _, many := range []int{41, 42, 10000} {
		wantDb(t, dbOf(0, many), false, fmt.Sprint(many, " of Open"))
	}
	alike := impl.Db{Clauses: slices.Repeat([]impl.Clause{factOf("p", 1)}, 120), Open: slices.Repeat([]string{"p/1"}, 40)}
	wantDb(t, alike, true, "120 that are alike, and 40")
	alike.Clauses = append(alike.Clauses, alike.Clauses[0])
	wantDb(t, alike, false, "121 that are alike")
	alike.Clauses, alike.Open = alike.Clauses[:1], append(alike.Open, "p/1")
	wantDb(t, alike, false, "41 of Open that are alike")
}

// faultyClauses are right but for their heads, or their bodies.
func faultyClauses() []impl.Clause {
	a := atomTerm("a")
	var list []impl.Clause
	for _, odd := range slices.Concat(oddTerms(), deepOdds(), greatTerms()) {
		list = append(list, impl.Clause{Head: odd, Body: a}, impl.Clause{Head: a, Body: odd}, impl.Clause{Head: structTerm("p", odd), Body: a}, impl.Clause{Head: odd, Body: odd})
	}
	for _, head := range []impl.Term{varTerm(0), varTerm(99999), intTerm(0), intTerm(-5)} {
		list = append(list, impl.Clause{Head: head, Body: a}, impl.Clause{Head: head, Body: head})
	}
	for _, pred := range controlByRule {
		list = append(list, impl.Clause{Head: headOf(pred), Body: a})
	}
	return append(list, impl.Clause{}, impl.Clause{Head: a}, impl.Clause{Body: a}, impl.Clause{File: "f"})
}

func TestDbOkOfFaultyClauses(t *testing.T) {
	for _, faulty := range faultyClauses() {
		wantDb(t, impl.Db{Clauses: []impl.Clause{faulty}}, false, shownClause(faulty)+" alone")
		for _, at := range []int{0, 3, 6} {
			d := dbOf(7, 2)
			d.Clauses[at] = faulty
			wantDb(t, d, false, fmt.Sprint(shownClause(faulty), " at ", at))
			d.Clauses = slices.Insert(dbOf(6, 0).Clauses, at, faulty)
			wantDb(t, d, false, fmt.Sprint(shownClause(faulty), " put in at ", at))
		}
	}
	full := dbOf(120, 40)
	for at := range full.Clauses {
		d := copyDb(full)
		d.Clauses[at].Head = headOf("is/2")
		wantDb(t, d, false, fmt.Sprint("a Control head at ", at))
		d = copyDb(full)
		d.Clauses[at].Body = atomTerm("")
		wantDb(t, d, false, fmt.Sprint("a wrong body at ", at))
	}
	wantDb(t, full, true, "120 clauses and 40 of Open")
}

func TestDbOkOfHeadsAndBodiesThatMayBe(t *testing.T) {
	a := atomTerm("a")
	for _, term := range rightTerms() {
		wantDb(t, impl.Db{Clauses: []impl.Clause{{Head: a, Body: term}}}, true, "the body "+shown(term))
		wantDb(t, impl.Db{Clauses: []impl.Clause{{Head: term, Body: a}}}, headByRule(predByRule(term)), "the head "+shown(term))
	}
	// Of a body it only matters whether it is right: it may be a name.
	wantDb(t, impl.Db{Clauses: []impl.Clause{{Head: a, Body: varTerm(0)}}}, true, "a body that is a name")
	// Both are right, though the `:-` of both is not.
	wantDb(t, impl.Db{Clauses: []impl.Clause{{Head: wideTerm(400, a), Body: wideTerm(400, a)}, {Head: chainTerm(40, a), Body: chainTerm(40, a)}}}, true, "large heads and bodies")
	wantDb(t, impl.Db{Clauses: []impl.Clause{{Head: wideTerm(401, a), Body: a}}}, false, "a head that is too large")
	wantDb(t, impl.Db{Clauses: []impl.Clause{{Head: a, Body: chainTerm(41, a)}}}, false, "a body that is too deep")
	for _, text := range []string{"", "p/1", "is/2", "any text", "\xff", strings.Repeat("o", 5000)} {
		wantDb(t, impl.Db{Open: []string{text, text}}, true, "Open of any text")
		wantDb(t, impl.Db{Clauses: []impl.Clause{{Head: a, Body: a, File: text}}}, true, "a file of any text")
	}
}

// drawnDb is right as often as not.
func drawnDb(r *rand.Rand) impl.Db {
	var d impl.Db
	right := r.Intn(2) > 0
	for range r.Intn(12) {
		c := impl.Clause{Head: drawnPlainHead(r), Body: drawnRight(r, 3), File: []string{"", "f", "g"}[r.Intn(3)]}
		if !right && r.Intn(3) == 0 {
			c.Head = drawnHead(r)
		}
		if !right && r.Intn(5) == 0 {
			c.Body = drawnHead(r)
		}
		d.Clauses = append(d.Clauses, c)
	}
	for range r.Intn(4) {
		d.Open = append(d.Open, drawnPred(r))
	}
	if r.Intn(10) == 0 {
		d.Open = dbOf(0, 39+r.Intn(3)).Open
	}
	if r.Intn(20) == 0 {
		d.Clauses = append(dbOf(113+r.Intn(8), 0).Clauses, d.Clauses...)
	}
	return d
}

func drawnPred(r *rand.Rand) string {
	return []string{"p/0", "q/0", "r/0", "p/1", "q/1", "r/1", "p/2", "s/0", "", "is/2", "p", "open3/0"}[r.Intn(12)]
}

func TestDbOkIsTheDocumentsRule(t *testing.T) {
	r := rand.New(rand.NewSource(83))
	right, not := 0, 0
	for range 10000 {
		d := drawnDb(r)
		want := dbOkByRule(d)
		wantDb(t, d, want, shownDb(d))
		if want {
			right++
		} else {
			not++
		}
	}
	if right < 2000 || not < 2000 {
		t.Errorf("%d are right, %d are not", right, not)
	}
}

func wantAdded(t *testing.T, d impl.Db, c impl.Clause) {
	t.Helper()
	want := impl.Db{Clauses: slices.Concat(d.Clauses, []impl.Clause{c}), Open: d.Open}
	if got, ok := impl.Added(d, c); !ok || !equalDbs(got, want) {
		t.Errorf("Added(%s, %s) = %s, %t; want it behind", shownDb(d), shownClause(c), shownDb(got), ok)
	}
}

func wantNotAdded(t *testing.T, d impl.Db, c impl.Clause) {
	t.Helper()
	if got, ok := impl.Added(d, c); ok || !equalDbs(got, d) {
		t.Errorf("Added(%s, %s) = %s, %t; want it as it is, false", shownDb(d), shownClause(c), shownDb(got), ok)
	}
}

func TestAddedStandsBehindTheOthers(t *testing.T) {
	a, x := atomTerm("a"), varTerm(1)
	for _, c := range []impl.Clause{factOf("p", 9), factOf("new", 1), {Head: a, Body: x}, {Head: a, Body: structTerm("call", x), File: "other"}, {Head: wideTerm(400, a), Body: wideTerm(400, a)}, {Head: structTerm("p", x), Body: intTerm(3)}} {
		for _, many := range []int{0, 1, 2, 5, 118, 119} {
			for _, open := range []int{0, 1, 40} {
				wantAdded(t, dbOf(many, open), c)
			}
		}
		for _, many := range []int{120, 121, 200} {
			wantNotAdded(t, dbOf(many, 3), c)
		}
		for _, open := range []int{41, 42, 100} {
			wantNotAdded(t, dbOf(5, open), c)
			wantNotAdded(t, dbOf(0, open), c)
		}
	}
	// One that is there already is behind once more.
	twice := impl.Db{Clauses: []impl.Clause{factOf("p", 1)}, Open: []string{"p/1", "p/1", ""}}
	wantAdded(t, twice, factOf("p", 1))
}

func TestAddedUpToTheLast(t *testing.T) {
	var d impl.Db
	for i := range 120 {
		with, ok := impl.Added(d, factOf("p", i))
		if !ok || len(with.Clauses) != i+1 {
			t.Fatalf("clause %d: %t, %d", i, ok, len(with.Clauses))
		}
		d = with
	}
	for i, c := range d.Clauses {
		if !equalClause(c, factOf("p", i)) {
			t.Errorf("clause %d is %s", i, shownClause(c))
		}
	}
	wantNotAdded(t, d, factOf("p", 120))
}

func TestAddedOfWhatMayNotBe(t *testing.T) {
	d := dbOf(4, 3)
	for _, faulty := range faultyClauses() {
		if !small(faulty) {
			got, ok := impl.Added(d, faulty)
			if ok || !equalDbs(got, d) {
				t.Errorf("Added of %s: %t", shownClause(faulty), ok)
			}
			continue
		}
		wantNotAdded(t, d, faulty)
		wantNotAdded(t, impl.Db{}, faulty)
		// What is not right already takes none, and stays as it is.
		for _, at := range []int{0, 2, 4} {
			wrong := impl.Db{Clauses: slices.Insert(slices.Clone(d.Clauses), at, faulty), Open: d.Open}
			wantNotAdded(t, wrong, factOf("p", 5))
			wantNotAdded(t, wrong, faulty)
		}
	}
}

// small tells whether both have few terms, and can be gone through one by one.
func small(c impl.Clause) bool {
	return impl.SizeOf(c.Head) <= impl.MaxSize && impl.SizeOf(c.Body) <= impl.MaxSize
}

// sameDbs is for those that have great terms.
func sameDbs(a, b impl.Db) bool {
	return slices.Equal(a.Open, b.Open) && slices.EqualFunc(a.Clauses, b.Clauses, func(x, y impl.Clause) bool {
		return impl.SameTerm(x.Head, y.Head) && impl.SameTerm(x.Body, y.Body) && x.File == y.File
	})
}

func TestClausesOfGreatTerms(t *testing.T) {
	// Without the deepest one, which takes long to be copied so often.
	for i, great := range slices.Delete(greatTerms(), 2, 3) {
		d := dbOf(2, 1)
		d.Clauses = append(d.Clauses, impl.Clause{Head: great, Body: atomTerm("a"), File: "g"})
		if got, ok := impl.Added(d, factOf("p", 1)); ok || !sameDbs(got, d) {
			t.Errorf("great term %d: Added is %t, or another Db", i, ok)
		}
		if got := impl.Opened(d, "new/0"); !sameDbs(got, impl.Db{Clauses: d.Clauses, Open: []string{"open0/0", "new/0"}}) {
			t.Errorf("great term %d: Opened is another Db", i)
		}
		d.Clauses[0].Body = great
		got := impl.ClausesOf(d, impl.PredOf(great))
		if len(got) != 1 || !impl.SameTerm(got[0].Head, great) || got[0].File != "g" {
			t.Errorf("great term %d: ClausesOf tells %d", i, len(got))
		}
		got = impl.ClausesOf(d, "p/1")
		if len(got) != 1 || !impl.SameTerm(got[0].Body, great) {
			t.Errorf("great term %d: ClausesOf tells %d of p/1", i, len(got))
		}
		if !impl.Known(d, impl.PredOf(great)) || impl.Known(d, "new/0") {
			t.Errorf("great term %d: Known is another one", i)
		}
	}
}

func TestAddedIsTheDocumentsRule(t *testing.T) {
	r := rand.New(rand.NewSource(84))
	added, not := 0, 0
	for range 10000 {
		d := drawnDb(r)
		c := impl.Clause{Head: drawnHead(r), Body: drawnAny(r, 3), File: "f"}
		if dbOkByRule(impl.Db{Clauses: slices.Concat(d.Clauses, []impl.Clause{c}), Open: d.Open}) {
			wantAdded(t, d, c)
			added++
		} else {
			wantNotAdded(t, d, c)
			not++
		}
	}
	if added < 2000 || not < 2000 {
		t.Errorf("%d were added, %d were not", added, not)
	}
}

func wantClausesByRule(t *testing.T, d impl.Db, pred string) {
	t.Helper()
	if got, want := impl.ClausesOf(d, pred), clausesByRule(d, pred); !equalClauses(got, want) {
		t.Errorf("ClausesOf(%s, %q) = %s; want %s", shownDb(d), pred, shownClauses(got), shownClauses(want))
	}
}

func TestClausesOfAFile(t *testing.T) {
	d := readClauses(t, "p(1). q(a). p(2). q. p(X) :- q(X). p(a, b). q(b). q :- p, q. p(3) :- X. r.", "one")
	for pred, want := range map[string][]int{"p/1": {0, 2, 4, 8}, "q/1": {1, 6}, "q/0": {3, 7}, "p/2": {5}, "r/0": {9}, "p/0": nil, "r/1": nil, "q/2": nil, "p": nil, "": nil, "true/0": nil, "call/1": nil} {
		var list []impl.Clause
		for _, at := range want {
			list = append(list, d.Clauses[at])
		}
		if got := impl.ClausesOf(d, pred); !equalClauses(got, list) {
			t.Errorf("ClausesOf %q = %s; want those at %d", pred, shownClauses(got), want)
		}
		if got := impl.Known(d, pred); got != (want != nil) {
			t.Errorf("Known %q = %t", pred, got)
		}
	}
	if text := impl.WriteTerm(impl.ClauseTerm(d.Clauses[8])); text != "(p(3) :- call(_0))" {
		t.Errorf("a body that is a name is written %s", text)
	}
}

func TestClausesOfAnyDb(t *testing.T) {
	for _, pred := range []string{"", "p/1", "q/0", "is/2"} {
		if got := impl.ClausesOf(impl.Db{}, pred); len(got) != 0 {
			t.Errorf("of nothing at all ClausesOf %q tells %d", pred, len(got))
		}
		if got := impl.ClausesOf(impl.Db{Open: []string{pred}}, pred); len(got) != 0 {
			t.Errorf("of %q, which is Open, ClausesOf tells %d", pred, len(got))
		}
	}
	// Of one that is not right those of the predicate are told all the same.
	var d impl.Db
	a := atomTerm("a")
	for _, c := range faultyClauses() {
		if small(c) {
			d.Clauses = append(d.Clauses, c, factOf("p", len(d.Clauses)))
		}
	}
	for _, pred := range predsIn(d, "", "p/1", "p/2", "f/0", "f/1", "f/6", "/0", "/1", "none/0") {
		wantClausesByRule(t, d, pred)
	}
	many := dbOf(5000, 50)
	for _, pred := range []string{"p/1", "q/1", "r/1", "s/1", "p/0"} {
		wantClausesByRule(t, many, pred)
	}
	// A head that has no PredOf stands where PredOf is empty, and nowhere else.
	without := impl.Db{Clauses: []impl.Clause{{Head: varTerm(0), Body: a}, factOf("p", 1), {Head: intTerm(0), Body: a}, {Head: a, Body: varTerm(0)}, {}}}
	for pred, want := range map[string]int{"": 3, "p/1": 1, "a/0": 1, "_0/0": 0, "0/0": 0, "/0": 0, "true/0": 0} {
		wantClausesByRule(t, without, pred)
		if got := impl.ClausesOf(without, pred); len(got) != want {
			t.Errorf("ClausesOf %q tells %d; want %d", pred, len(got), want)
		}
	}
}

// predsIn are those of the clauses, and some more, each once.
func predsIn(d impl.Db, more ...string) []string {
	preds := slices.Clone(more)
	for _, c := range d.Clauses {
		preds = append(preds, predByRule(c.Head))
	}
	slices.Sort(preds)
	return slices.Compact(preds)
}

func TestClausesOfIsTheDocumentsRule(t *testing.T) {
	r := rand.New(rand.NewSource(85))
	for range 5000 {
		d := drawnDb(r)
		for _, pred := range predsIn(d, drawnPred(r), drawnPred(r), "") {
			wantClausesByRule(t, d, pred)
			wantKnownByRule(t, d, pred)
			wantOpenedByRule(t, d, pred)
		}
	}
}

func wantKnownByRule(t *testing.T, d impl.Db, pred string) {
	t.Helper()
	want := len(clausesByRule(d, pred)) > 0 || slices.Contains(d.Open, pred)
	if got := impl.Known(d, pred); got != want {
		t.Errorf("Known(%s, %q) = %t; want %t", shownDb(d), pred, got, want)
	}
}

func wantKnown(t *testing.T, d impl.Db, pred string, want bool) {
	t.Helper()
	if got := impl.Known(d, pred); got != want {
		t.Errorf("Known(%s, %q) = %t; want %t", shownDb(d), pred, got, want)
	}
}

func TestKnownByAClauseOrOpen(t *testing.T) {
	d := impl.Db{Clauses: []impl.Clause{factOf("told", 1), factOf("both", 1), factOf("told", 2)}, Open: []string{"open/1", "both/1", "open/2"}}
	for pred, want := range map[string]bool{
		"told/1": true, "open/1": true, "open/2": true, "both/1": true,
		"": false, "told": false, "told/0": false, "told/2": false, "open": false, "open/0": false, "open/3": false, "open/": false, "open/11": false, "open/01": false, "neither/1": false, "both/2": false, "true/0": false, "is/2": false, "Told/1": false,
	} {
		wantKnown(t, d, pred, want)
		wantKnown(t, impl.Db{}, pred, false)
	}
	// Any text may be Open, a Control predicate and the empty one among them.
	for _, text := range []string{"", "is/2", "p", "\xff", "a text"} {
		wantKnown(t, impl.Db{Open: []string{"p/1", text}}, text, true)
		wantKnown(t, impl.Db{Open: []string{"p/1", text + "x"}}, text, false)
	}
	// Of one that is not right it is told all the same.
	wantKnown(t, dbOf(200, 60), "p/1", true)
	wantKnown(t, dbOf(200, 60), "open59/0", true)
	wantKnown(t, dbOf(200, 60), "open60/0", false)
	last := dbOf(500, 0)
	last.Clauses = append(last.Clauses, factOf("last", 1))
	wantKnown(t, last, "last/1", true)
	a := atomTerm("a")
	without := impl.Db{Clauses: []impl.Clause{{Head: varTerm(0), Body: a}, {Head: headOf("is/2"), Body: a}, {Head: structTerm("f"), Body: impl.Term{}}}}
	for pred, want := range map[string]bool{"": true, "is/2": true, "f/0": true, "a/0": false} {
		wantKnown(t, without, pred, want)
	}
	wantKnown(t, impl.Db{Clauses: []impl.Clause{factOf("p", 1)}}, "", false)
}

func wantOpened(t *testing.T, d impl.Db, pred string, open ...string) {
	t.Helper()
	want := impl.Db{Clauses: d.Clauses, Open: open}
	if got := impl.Opened(d, pred); !equalDbs(got, want) {
		t.Errorf("Opened(%s, %q) = %s; want %s", shownDb(d), pred, shownDb(got), shownDb(want))
	}
}

func wantOpenedByRule(t *testing.T, d impl.Db, pred string) {
	t.Helper()
	open := slices.Clone(d.Open)
	if !slices.Contains(open, pred) && len(open) < maxOpen {
		open = append(open, pred)
	}
	wantOpened(t, d, pred, open...)
}

func TestOpenedIsOneOfOpen(t *testing.T) {
	wantOpened(t, impl.Db{}, "p/1", "p/1")
	wantOpened(t, impl.Db{}, "", "")
	wantOpened(t, dbOf(3, 0), "p/1", "p/1")
	d := dbOf(3, 2)
	wantOpened(t, d, "p/1", "open0/0", "open1/0", "p/1")
	wantOpened(t, d, "", "open0/0", "open1/0", "")
	wantOpened(t, d, "open0/0", "open0/0", "open1/0")
	wantOpened(t, d, "open1/0", "open0/0", "open1/0")
	wantOpened(t, d, "open1/00", "open0/0", "open1/0", "open1/00")
	for _, text := range []string{"is/2", "a text", "\x00", "\xff", "p", strings.Repeat("o", 5000)} {
		wantOpened(t, d, text, "open0/0", "open1/0", text)
	}
	once := impl.Opened(impl.Opened(impl.Opened(impl.Db{}, "q/1"), "p/1"), "q/1")
	if !equalDbs(once, impl.Db{Open: []string{"q/1", "p/1"}}) {
		t.Errorf("q/1, p/1 and q/1 Opened: %q", once.Open)
	}
}

func TestOpenedHoldsItsLimit(t *testing.T) {
	for _, clauses := range []int{0, 2, 120, 121} {
		for _, many := range []int{37, 38, 39} {
			d := dbOf(clauses, many)
			wantOpened(t, d, "new/0", append(slices.Clone(d.Open), "new/0")...)
			wantOpened(t, d, "open7/0", d.Open...)
		}
		for _, many := range []int{40, 41, 42, 500} {
			d := dbOf(clauses, many)
			wantOpened(t, d, "new/0", d.Open...)
			wantOpened(t, d, "", d.Open...)
			wantOpened(t, d, "open7/0", d.Open...)
			wantOpened(t, d, d.Open[many-1], d.Open...)
		}
	}
	var d impl.Db
	for i := range 60 {
		d = impl.Opened(d, fmt.Sprintf("open%d/0", i))
		if want := min(i+1, 40); len(d.Open) != want || !impl.DbOk(d) || impl.Known(d, fmt.Sprintf("open%d/0", i)) != (i < 40) {
			t.Fatalf("behind %d Opened: %d of Open; want %d", i+1, len(d.Open), want)
		}
	}
}

// What stands there twice stays as it is.
func TestOpenedOfWhatStandsTwice(t *testing.T) {
	d := impl.Db{Open: []string{"p/1", "q/1", "p/1"}}
	wantOpened(t, d, "p/1", "p/1", "q/1", "p/1")
	wantOpened(t, d, "q/1", "p/1", "q/1", "p/1")
	wantOpened(t, d, "r/1", "p/1", "q/1", "p/1", "r/1")
	all := impl.Db{Open: slices.Repeat([]string{"p/1"}, 39)}
	wantOpened(t, all, "p/1", all.Open...)
	wantOpened(t, all, "q/1", append(slices.Clone(all.Open), "q/1")...)
	all.Open = append(all.Open, "p/1")
	wantOpened(t, all, "q/1", all.Open...)
}

// The promise: a clause told is that clause when it is told again, however it was come by.
func TestClausesAreWhatTheyWereToldAs(t *testing.T) {
	r := rand.New(rand.NewSource(86))
	again, tooLarge := 0, 0
	for i := range 20000 {
		term := drawnClauseTerm(r)
		if i%10 == 0 {
			term = ifTerm(wideTerm(390+r.Intn(10), varTerm(1)), varTerm(2))
		}
		c, ok := impl.ClauseOf(term, "f")
		if !ok {
			continue
		}
		whole := impl.ClauseTerm(c)
		told, ok := impl.ClauseOf(whole, c.File)
		if !impl.TermOk(whole) {
			tooLarge++
			if ok {
				t.Fatalf("%s is a clause, but it is not right", shown(whole))
			}
			continue
		}
		again++
		if !ok || !equalClause(told, c) {
			t.Fatalf("%s told again is %s, %t", shownClause(c), shownClause(told), ok)
		}
	}
	if again < 5000 || tooLarge < 100 {
		t.Errorf("%d were told again, %d are too large", again, tooLarge)
	}
}

// The promise: what was told stands behind what was told before, and what stood there is as it was.
func TestWhatWasAddedIsTheLastOfItsOwn(t *testing.T) {
	r := rand.New(rand.NewSource(87))
	added := 0
	for range 300 {
		var d impl.Db
		for d.Open == nil && r.Intn(2) == 0 {
			d = impl.Opened(d, drawnPred(r))
		}
		for range r.Intn(60) {
			c, _ := impl.ClauseOf(drawnClauseTerm(r), "f")
			with, ok := impl.Added(d, c)
			if !ok {
				if !equalDbs(with, d) {
					t.Fatalf("%s is changed by %s, which was not added", shownDb(d), shownClause(c))
				}
				continue
			}
			added++
			pred := impl.PredOf(c.Head)
			if want := append(impl.ClausesOf(d, pred), c); !equalClauses(impl.ClausesOf(with, pred), want) {
				t.Fatalf("of %s are %s; want %s", pred, shownClauses(impl.ClausesOf(with, pred)), shownClauses(want))
			}
			if !impl.Known(with, pred) || !impl.DbOk(with) || !slices.Equal(with.Open, d.Open) {
				t.Fatalf("%s, which was added, is not known, or Open is another one", pred)
			}
			for _, other := range []string{"p/0", "p/1", "q/1", "r/2", "s/0", ""} {
				if other != pred && (!equalClauses(impl.ClausesOf(with, other), impl.ClausesOf(d, other)) || impl.Known(with, other) != impl.Known(d, other)) {
					t.Fatalf("%s is changed by what was added to %s", other, pred)
				}
			}
			d = with
		}
	}
	if added < 2000 {
		t.Errorf("only %d were added", added)
	}
}

func listsOfClauses(list []impl.Clause) []impl.Term {
	var terms []impl.Term
	for _, c := range list {
		terms = append(terms, c.Head, c.Body)
	}
	return terms
}

// spoilDb writes over all that an answer has, the room behind its lists, too.
func spoilDb(d impl.Db) {
	spoilClauses(d.Clauses)
	clear(d.Open[:cap(d.Open)])
}

func spoilClauses(list []impl.Clause) {
	for _, term := range listsOfClauses(list) {
		spoilTerm(term)
	}
	clear(list[:cap(list)])
}

func spoilTerm(t impl.Term) {
	for _, list := range listsIn(t, 5000) {
		for i := range list[:cap(list)] {
			list[:cap(list)][i] = atomTerm("spoilt")
		}
	}
}

// sharedDb has the same lists in many places, and a clause that has them, too.
func sharedDb() (impl.Db, impl.Clause) {
	shared := []impl.Term{varTerm(1), structTerm("g", atomTerm("a"), varTerm(2))}
	p := structTerm("p", shared...)
	c := impl.Clause{Head: p, Body: structTerm(",", p, structTerm("q", shared...)), File: "f"}
	return impl.Db{Clauses: []impl.Clause{c, c, {Head: structTerm("q", shared...), Body: p}}, Open: []string{"o/1", "u/2"}}, c
}

// wrongDb is sharedDb with a clause that is not right, which has the same lists once more.
func wrongDb() (impl.Db, impl.Clause) {
	d, c := sharedDb()
	odd := structTerm("", c.Head.Kids...)
	d.Clauses = append(d.Clauses, impl.Clause{Head: odd, Body: odd}, impl.Clause{Head: structTerm("f", odd, odd), Body: c.Head})
	return d, impl.Clause{Head: odd, Body: structTerm("f", c.Head, odd)}
}

func TestClauseAnswersNewMemory(t *testing.T) {
	for _, asked := range []func() (impl.Db, impl.Clause){sharedDb, wrongDb} {
		d, c := asked()
		whole := impl.ClauseTerm(c)
		told, _ := impl.ClauseOf(ifTerm(d.Clauses[0].Head, d.Clauses[0].Body), "f")
		byName, _ := impl.ClauseOf(ifTerm(d.Clauses[0].Head, varTerm(1)), "f")
		fact, _ := impl.ClauseOf(d.Clauses[0].Head, "f")
		with, _ := impl.Added(d, c)
		list := impl.ClausesOf(d, impl.PredOf(c.Head))
		dbs := []impl.Db{with, impl.Opened(d, "new/0"), impl.Opened(d, "o/1"), {Clauses: list}, {Clauses: []impl.Clause{told, byName, fact}}}
		// In what was asked some lists stand in many places, in an answer none does.
		for _, answer := range dbs {
			wantNoListTwice(t, shownDb(answer), listsOfClauses(answer.Clauses)...)
		}
		wantNoListTwice(t, shown(whole), whole)
		before, clause, term := copyDb(d), copyClause(c), deepCopy(whole)
		var answers []impl.Db
		for _, answer := range dbs {
			answers = append(answers, copyDb(answer))
		}
		for i, answer := range dbs {
			spoilDb(answer)
			for j := i + 1; j < len(dbs); j++ {
				if !equalDbs(dbs[j], answers[j]) {
					t.Errorf("answers %d and %d share memory", i, j)
				}
			}
			if !equalDbs(d, before) || !equalClause(c, clause) || !equalTerms(whole, term) {
				t.Errorf("answer %d shares memory with what was asked", i)
			}
		}
		spoilTerm(whole)
		if !equalDbs(d, before) || !equalClause(c, clause) {
			t.Error("what ClauseTerm answers shares memory with what was asked")
		}
	}
}

func TestClauseAnswersStayAsTheyAre(t *testing.T) {
	for _, asked := range []func() (impl.Db, impl.Clause){sharedDb, wrongDb} {
		d, c := asked()
		whole := impl.ClauseTerm(c)
		told, _ := impl.ClauseOf(ifTerm(d.Clauses[0].Head, d.Clauses[0].Body), "f")
		with, _ := impl.Added(d, c)
		opened := impl.Opened(d, "new/0")
		list := impl.ClausesOf(d, impl.PredOf(c.Head))
		wantWhole, wantTold, wantWith, wantOpen, wantList := deepCopy(whole), copyClause(told), copyDb(with), copyDb(opened), copyClauses(list)
		spoilTerm(c.Head)
		spoilTerm(c.Body)
		spoilDb(d)
		if !equalTerms(whole, wantWhole) || !equalClause(told, wantTold) || !equalDbs(with, wantWith) || !equalDbs(opened, wantOpen) || !equalClauses(list, wantList) {
			t.Error("an answer changes with what was asked")
		}
	}
}

// Two that go on from one Db don't see each other's clauses.
func TestAddedGoesOnFromOneDbTwice(t *testing.T) {
	d := impl.Db{Clauses: make([]impl.Clause, 0, 10), Open: make([]string, 0, 10)}
	for i := range 8 {
		d, _ = impl.Added(d, factOf("p", i))
		d = impl.Opened(d, fmt.Sprintf("o%d/0", i))
		one, _ := impl.Added(d, factOf("one", i))
		other, _ := impl.Added(d, factOf("other", i))
		oneOpen, otherOpen := impl.Opened(d, "one/0"), impl.Opened(d, "other/0")
		if one.Clauses[i+1].Head.Name != "one" || other.Clauses[i+1].Head.Name != "other" || len(d.Clauses) != i+1 {
			t.Fatal("what was added to one Db is seen in another one")
		}
		if oneOpen.Open[i+1] != "one/0" || otherOpen.Open[i+1] != "other/0" || len(d.Open) != i+1 {
			t.Fatal("what was Opened in one Db is seen in another one")
		}
	}
}

func TestClauseAnswersNewNames(t *testing.T) {
	name, file, open := strings.Repeat("n", 12), strings.Repeat("f", 12), strings.Repeat("o", 12)
	named := structTerm(name, atomTerm(name), structTerm("g", structTerm(name, varTerm(0))))
	odd := impl.Term{Kind: 8, Name: name, Kids: []impl.Term{atomTerm(name)}}
	c := impl.Clause{Head: named, Body: named, File: file}
	d := impl.Db{Clauses: []impl.Clause{c, {Head: odd, Body: odd, File: file}, {Head: atomTerm(name), Body: atomTerm(name), File: file}}, Open: []string{open}}
	right := impl.Db{Clauses: d.Clauses[:1], Open: d.Open}
	told, _ := impl.ClauseOf(ifTerm(named, named), file)
	fact, _ := impl.ClauseOf(named, file)
	can, _ := impl.Added(right, c)
	cannot, _ := impl.Added(d, c)
	opened, asIs := impl.Opened(d, open+"x"), impl.Opened(d, open)
	asked := open + "new"
	fresh := impl.Opened(d, asked)
	answers := []impl.Db{{Clauses: []impl.Clause{told, fact}}, can, cannot, opened, asIs, fresh}
	for _, pred := range []string{name + "/1", name + "/2", name + "/0", ""} {
		answers = append(answers, impl.Db{Clauses: impl.ClausesOf(d, pred)})
	}
	terms := []impl.Term{impl.ClauseTerm(c), impl.ClauseTerm(d.Clauses[1])}
	texts := []string{impl.PredOf(named), impl.PredOf(atomTerm(name))}
	for _, answer := range answers {
		terms = append(terms, listsOfClauses(answer.Clauses)...)
		texts = append(texts, answer.Open...)
		for _, c := range answer.Clauses {
			texts = append(texts, c.File)
		}
	}
	for _, list := range listsIn(structTerm("w", terms...), 1000) {
		for _, term := range list {
			texts = append(texts, term.Name)
		}
	}
	for _, text := range texts {
		for _, whole := range []string{name, file, open, asked} {
			if text != "" && shares(whole, text) {
				t.Errorf("%q lies in what was asked", text)
			}
		}
	}
	if len(texts) < 80 {
		t.Errorf("only %d texts were looked at", len(texts))
	}
}

// spareDb has room behind each of its lists, with something in it.
func spareDb(d impl.Db) impl.Db {
	list := make([]impl.Clause, 0, len(d.Clauses)+2)
	for _, c := range d.Clauses {
		list = append(list, impl.Clause{Head: withSpare(c.Head), Body: withSpare(c.Body), File: c.File})
	}
	list = append(list, factOf("spare", 1), factOf("spare", 2))
	open := append(slices.Clone(d.Open), "spare/0", "spare/1")
	return impl.Db{Clauses: list[:len(list)-2], Open: open[:len(open)-2]}
}

func spareDbUntouched(d impl.Db) bool {
	list, open := d.Clauses[:len(d.Clauses)+2], d.Open[:len(d.Open)+2]
	if !equalClauses(list[len(d.Clauses):], []impl.Clause{factOf("spare", 1), factOf("spare", 2)}) || !slices.Equal(open[len(d.Open):], []string{"spare/0", "spare/1"}) {
		return false
	}
	for _, term := range listsOfClauses(d.Clauses) {
		if !spareUntouched(term) {
			return false
		}
	}
	return true
}

func TestClausesAreNotWrittenInto(t *testing.T) {
	r := rand.New(rand.NewSource(88))
	for range 3000 {
		d, term := drawnDb(r), drawnClauseTerm(r)
		asked, one := spareDb(d), withSpare(term)
		c := impl.Clause{Head: withSpare(term), Body: withSpare(term), File: "f"}
		fine := impl.Clause{Head: withSpare(atomTerm("p")), Body: withSpare(varTerm(0))}
		pred := drawnPred(r)
		impl.PredOf(one)
		impl.ClauseOf(one, "f")
		impl.ClauseTerm(c)
		impl.DbOk(asked)
		impl.Added(asked, c)
		impl.Added(asked, fine)
		impl.ClausesOf(asked, pred)
		impl.Known(asked, pred)
		impl.Opened(asked, pred)
		impl.Opened(asked, "new/0")
		if !equalDbs(asked, d) || !spareDbUntouched(asked) {
			t.Fatalf("%s was written into", shownDb(d))
		}
		for _, got := range []impl.Term{one, c.Head, c.Body} {
			if !equalTerms(got, term) || !spareUntouched(got) {
				t.Fatalf("%s was written into", shown(term))
			}
		}
		if !equalTerms(fine.Head, atomTerm("p")) || !spareUntouched(fine.Head) || !spareUntouched(fine.Body) {
			t.Fatal("a clause was written into")
		}
	}
}

// No answer hangs on the order in which predicates are gone through, nor on what was asked before.
func TestClausesHangOnWhatIsAskedAlone(t *testing.T) {
	right := dbOf(120, 40)
	for i := range right.Clauses {
		right.Clauses[i].Head.Name = fmt.Sprintf("p%d", i%30)
	}
	wrong := copyDb(right)
	wrong.Clauses[77].Head = varTerm(0)
	short := impl.Db{Clauses: right.Clauses[:119], Open: right.Open[:39]}
	first := ""
	for i := range 200 {
		with, added := impl.Added(short, factOf("p7", 9))
		told := fmt.Sprint(impl.DbOk(right), impl.DbOk(wrong), added, shownDb(with), shownDb(impl.Opened(short, "new/0")))
		for k := range 31 {
			pred := fmt.Sprintf("p%d/1", k)
			told += fmt.Sprint(shownClauses(impl.ClausesOf(right, pred)), shownClauses(impl.ClausesOf(wrong, pred)), impl.Known(short, pred))
		}
		if i == 0 {
			first = told
		}
		if told != first {
			t.Fatal("told otherwise when asked again")
		}
	}
	if !strings.HasPrefix(first, "true false true") {
		t.Errorf("%.40s", first)
	}
}

// An empty list is as nil.
func TestClausesTakeNilForEmpty(t *testing.T) {
	empty := atomTerm("p")
	empty.Kids = []impl.Term{}
	wantPred(t, empty, "p/0")
	wantClause(t, empty, "f", atomTerm("p"), atomTerm("true"))
	wantClause(t, ifTerm(empty, empty), "f", atomTerm("p"), atomTerm("p"))
	d := impl.Db{Clauses: []impl.Clause{}, Open: []string{}}
	wantAdded(t, d, impl.Clause{Head: empty, Body: empty})
	wantOpened(t, d, "p/0", "p/0")
	wantKnown(t, d, "p/0", false)
	if len(impl.ClausesOf(d, "p/0")) != 0 {
		t.Error("of empty lists ClausesOf tells some")
	}
}
