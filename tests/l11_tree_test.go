package tests

import (
	"fmt"
	"math/rand"
	"slices"
	"strings"
	"testing"

	"loop.example/g00469/impl"
)

// goalByRule is a goal with its mark, or what stands in a list of goals in place of one: the end of a condition, or of what a catch has first.
type goalByRule struct {
	term  impl.Term
	mark  int
	cut   bool
	catch *catchByRule
}

// stateByRule is what is had again by who goes back.
type stateByRule struct {
	list  []impl.Term
	used  int
	goals []goalByRule
}

type catchByRule struct {
	state  stateByRule
	kids   []impl.Term
	mark   int
	places int
}

// placeByRule is a place to other goals, or to the next clauses of a call; that of a catch has neither, and fails.
type placeByRule struct {
	state   stateByRule
	other   []goalByRule
	call    impl.Term
	clauses []impl.Clause
}

// asking is the document's rule once more, by copies of all that there is.
type asking struct {
	stateByRule
	goal   impl.Term
	most   int
	places []placeByRule
	over   bool
	impl.Outcome
}

func askByRule(d impl.Db, goal impl.Term, steps int) impl.Outcome {
	a := &asking{goal: goal, most: min(max(steps, 0), 2000)}
	a.Db = copyDb(d)
	if !dbOkByRule(d) || !impl.TermOk(goal) {
		a.end(impl.EnStop)
		return a.Outcome
	}
	a.goals = []goalByRule{{term: goal}}
	a.more(greatestIn(goal) + 1)
	for !a.over {
		if !a.next() && !a.over {
			a.back()
		}
	}
	return a.Outcome
}

func (a *asking) end(end int) {
	a.over = true
	a.End = end
}

func (a *asking) binds() impl.Binds { return impl.Binds{List: a.list} }

// more has room for so many more TmVars.
func (a *asking) more(many int) {
	a.used += many
	if a.used > 3000 {
		a.end(impl.EnStop)
		return
	}
	a.list = append(slices.Clone(a.list), make([]impl.Term, a.used-len(a.list))...)
}

func greatestIn(t impl.Term) int {
	n := -1
	for _, v := range impl.VarsOf(t) {
		n = max(n, v)
	}
	return n
}

func (a *asking) filled(t impl.Term) (impl.Term, bool) {
	whole, ok := impl.Filled(a.binds(), t)
	if !ok {
		a.end(impl.EnStop)
	}
	return whole, ok
}

func (a *asking) next() bool {
	if len(a.goals) == 0 {
		if answer, ok := a.filled(a.goal); ok {
			a.Answers = append(a.Answers, answer)
		}
		if len(a.Answers) == 8 && !a.over {
			a.end(impl.EnMany)
		}
		return false
	}
	g := a.goals[0]
	if !g.cut && g.catch == nil && a.Steps == a.most {
		a.end(impl.EnStop)
		return false
	}
	a.goals = a.goals[1:]
	if g.cut {
		a.cut(g.mark)
	}
	if g.cut || g.catch != nil {
		return true
	}
	a.Steps++
	return a.take(impl.Walked(a.binds(), g.term), g.mark)
}

// cut knows that no mark is above what there is.
func (a *asking) cut(mark int) {
	if mark > len(a.places) {
		panic("a mark is above what there is")
	}
	a.places = slices.Clone(a.places[:mark])
}

func (a *asking) back() {
	if len(a.places) == 0 {
		a.end(impl.EnDone)
		return
	}
	p := a.places[len(a.places)-1]
	a.cut(len(a.places) - 1)
	a.stateByRule = p.state
	went := false
	switch {
	case p.other != nil:
		a.goals = p.other
		went = true
	case p.clauses != nil:
		went = a.tryClauses(p.call, p.clauses)
	}
	if !went && !a.over {
		a.back()
	}
}

func (a *asking) put(goals ...goalByRule) bool {
	a.goals = slices.Concat(goals, a.goals)
	return true
}

func (a *asking) putOne(t impl.Term, mark int) bool {
	return a.put(goalByRule{term: t, mark: mark})
}

func (a *asking) placeTo(t impl.Term, mark int) {
	other := slices.Concat([]goalByRule{{term: t, mark: mark}}, a.goals)
	a.places = append(slices.Clone(a.places), placeByRule{state: a.stateByRule, other: other})
}

func (a *asking) choose(condition, then, other impl.Term, mark int) bool {
	ahead := len(a.places)
	a.placeTo(other, mark)
	return a.put(goalByRule{term: condition, mark: ahead + 1}, goalByRule{cut: true, mark: ahead}, goalByRule{term: then, mark: mark})
}

func (a *asking) take(t impl.Term, mark int) bool {
	k := t.Kids
	fail, so := atomTerm("fail"), atomTerm("true")
	switch {
	case t.Kind == impl.TmVar:
		return a.wrong(impl.ErInst, "call/1")
	case t.Kind == impl.TmInt:
		return a.wrong(impl.ErType, "call/1")
	case isOf(t, ",", 2):
		return a.put(goalByRule{term: k[0], mark: mark}, goalByRule{term: k[1], mark: mark})
	case isOf(t, "->", 2):
		return a.choose(k[0], k[1], fail, mark)
	case isOf(t, `\+`, 1):
		return a.choose(k[0], fail, so, mark)
	case isOf(t, ";", 2):
		if first := impl.Walked(a.binds(), k[0]); isOf(first, "->", 2) {
			return a.choose(first.Kids[0], first.Kids[1], k[1], mark)
		}
		a.placeTo(k[1], mark)
		return a.putOne(k[0], mark)
	case isOf(t, "call", 1):
		return a.putOne(k[0], len(a.places))
	case isOf(t, "call", 2) || isOf(t, "call", 3):
		return a.callMore(impl.Walked(a.binds(), k[0]), k[1:])
	case isOf(t, "catch", 3):
		c := &catchByRule{state: a.stateByRule, kids: k, mark: mark, places: len(a.places)}
		a.places = append(slices.Clone(a.places), placeByRule{state: a.stateByRule})
		return a.put(goalByRule{term: k[0], mark: len(a.places)}, goalByRule{catch: c})
	case isOf(t, "throw", 1):
		if ball, ok := a.filled(k[0]); ok {
			return a.throw(ball)
		}
		return true
	}
	if went, ours := a.simple(t, mark); ours {
		return went
	}
	pred := impl.PredOf(t)
	if !impl.Known(a.Db, pred) {
		return a.wrong(0, pred)
	}
	return a.tryClauses(t, impl.ClausesOf(a.Db, pred))
}

func (a *asking) wrong(code int, pred string) bool { return a.throw(impl.ErrorTerm(code, pred)) }

func (a *asking) callMore(first impl.Term, others []impl.Term) bool {
	pred := fmt.Sprintf("call/%d", 1+len(others))
	if first.Kind == impl.TmVar {
		return a.wrong(impl.ErInst, pred)
	}
	if first.Kind == impl.TmInt || len(first.Kids)+len(others) > 5 {
		return a.wrong(impl.ErType, pred)
	}
	return a.putOne(structTerm(first.Name, slices.Concat(first.Kids, others)...), len(a.places))
}

func (a *asking) throw(ball impl.Term) bool {
	for i, g := range a.goals {
		c := g.catch
		if c == nil {
			continue
		}
		list := append(slices.Clone(c.state.list), make([]impl.Term, len(impl.VarsOf(ball)))...)
		fresh := packed(ball, c.state.used)
		b, ok := impl.Unify(impl.Binds{List: list}, c.kids[1], fresh)
		if !ok {
			continue
		}
		a.stateByRule = stateByRule{list: b.List, used: c.state.used, goals: a.goals[i+1:]}
		a.cut(c.places)
		a.more(len(impl.VarsOf(ball)))
		return a.putOne(c.kids[2], c.mark)
	}
	a.Ball = ball
	a.end(impl.EnBall)
	return true
}

// packed numbers the TmVars from there on, in order.
func packed(t impl.Term, from int) impl.Term {
	vars := impl.VarsOf(t)
	var over func(t impl.Term) impl.Term
	over = func(t impl.Term) impl.Term {
		if t.Kind == impl.TmVar {
			return varTerm(from + slices.Index(vars, t.Num))
		}
		var kids []impl.Term
		for _, k := range t.Kids {
			kids = append(kids, over(k))
		}
		t.Kids = kids
		return t
	}
	return over(t)
}

func (a *asking) unify(x, y impl.Term) bool {
	b, ok := impl.Unify(a.binds(), x, y)
	if ok {
		a.list = b.List
	}
	return ok
}

// simple tells whether the goal went on, and whether it is one that is done at once.
func (a *asking) simple(t impl.Term, mark int) (bool, bool) {
	k := t.Kids
	switch impl.PredOf(t) {
	case "true/0":
		return true, true
	case "fail/0":
		return false, true
	case "!/0":
		a.cut(mark)
		return true, true
	case "=/2":
		return a.unify(k[0], k[1]), true
	case `\=/2`:
		_, ok := impl.Unify(a.binds(), k[0], k[1])
		return !ok, true
	case "==/2":
		x, ok := impl.Filled(a.binds(), k[0])
		y, too := impl.Filled(a.binds(), k[1])
		return ok && too && equalTerms(x, y), true
	case "is/2", "</2", "=:=/2":
		return a.reckon(t), true
	case "var/1":
		return impl.Walked(a.binds(), k[0]).Kind == impl.TmVar, true
	case "atom/1":
		return impl.Walked(a.binds(), k[0]).Kind == impl.TmAtom, true
	case "write/1":
		return a.write(k[0]), true
	case "assertz/1":
		return a.assertz(k[0]), true
	case "retract/1":
		return a.retract(impl.Walked(a.binds(), k[0])), true
	case ":-/2", ":-/1", "-->/2":
		return a.wrong(impl.ErType, impl.PredOf(t)), true
	}
	return false, false
}

func (a *asking) reckon(t impl.Term) bool {
	var numbers []int
	for i, k := range t.Kids {
		if i == 0 && t.Name == "is" {
			continue
		}
		n, code := impl.Eval(a.binds(), k)
		if code != 0 {
			return a.wrong(code, impl.PredOf(t))
		}
		numbers = append(numbers, n)
	}
	switch t.Name {
	case "is":
		return a.unify(t.Kids[0], intTerm(numbers[0]))
	case "<":
		return numbers[0] < numbers[1]
	}
	return numbers[0] == numbers[1]
}

func (a *asking) write(t impl.Term) bool {
	whole, ok := a.filled(t)
	if !ok {
		return true
	}
	text := impl.WriteTerm(whole)
	if len(a.Out)+len(text) > 2000 {
		a.end(impl.EnStop)
		return true
	}
	a.Out += text
	return true
}

func (a *asking) assertz(t impl.Term) bool {
	whole, ok := a.filled(t)
	if !ok {
		return true
	}
	c, ok := impl.ClauseOf(packed(whole, 0), "")
	if !ok {
		return a.wrong(impl.ErType, "assertz/1")
	}
	d, ok := impl.Added(a.Db, c)
	if !ok {
		a.end(impl.EnStop)
	}
	a.Db = d
	return true
}

// ownTerm is the term with TmVars behind all so far; where these are too many it's only to be seen whether it can be unified.
func (a *asking) ownTerm(t impl.Term, many int) impl.Term {
	if a.used+many > 3000 {
		return packed(t, a.used)
	}
	return impl.Shifted(t, a.used)
}

// unifyOwn unifies with a term of a clause that has so many TmVars, all of its own.
func (a *asking) unifyOwn(x, own impl.Term, many int) bool {
	list := append(slices.Clone(a.list), make([]impl.Term, min(many, 800))...)
	if a.used+many <= 3000 {
		list = append(slices.Clone(a.list), make([]impl.Term, many)...)
	}
	b, ok := impl.Unify(impl.Binds{List: list}, x, a.ownTerm(own, many))
	if ok {
		a.list = b.List
	}
	return ok
}

func (a *asking) retract(t impl.Term) bool {
	if !isOf(t, ":-", 2) {
		t = ifTerm(t, atomTerm("true"))
	}
	head := impl.Walked(a.binds(), t.Kids[0])
	if head.Kind == impl.TmVar {
		return a.wrong(impl.ErInst, "retract/1")
	}
	pred := impl.PredOf(head)
	if pred == "" {
		return a.wrong(impl.ErType, "retract/1")
	}
	for i, c := range a.Db.Clauses {
		whole := impl.ClauseTerm(c)
		many := greatestIn(whole) + 1
		if impl.PredOf(c.Head) != pred || !a.unifyOwn(t, whole, many) {
			continue
		}
		if a.more(many); !a.over {
			a.Db.Clauses = slices.Concat(a.Db.Clauses[:i], a.Db.Clauses[i+1:])
		}
		return true
	}
	return false
}

func (a *asking) tryClauses(t impl.Term, list []impl.Clause) bool {
	ahead, state := len(a.places), a.stateByRule
	for i, c := range list {
		a.stateByRule = state
		many := greatestIn(ifTerm(c.Head, c.Body)) + 1
		if !a.unifyOwn(t, c.Head, many) {
			continue
		}
		by := a.used
		if a.more(many); a.over {
			return true
		}
		if i+1 < len(list) {
			a.places = append(slices.Clone(a.places), placeByRule{state: state, call: t, clauses: list[i+1:]})
		}
		return a.putOne(impl.Shifted(c.Body, by), ahead)
	}
	return false
}

// endNames are how toldOf tells the ends.
func endNames() []string { return []string{"done", "stop", "ball", "many"} }

// toldOf is an outcome in a line, but for its Db: `p(a) p(b): done at 3, wrote ab`.
func toldOf(o impl.Outcome) string {
	var text strings.Builder
	for i, answer := range o.Answers {
		if i > 0 {
			text.WriteString(" ")
		}
		text.WriteString(impl.WriteTerm(answer))
	}
	text.WriteString(": " + endNames()[o.End])
	if o.Ball.Kind != 0 {
		text.WriteString(" " + impl.WriteTerm(o.Ball))
	}
	fmt.Fprintf(&text, " at %d", o.Steps)
	if o.Out != "" {
		text.WriteString(", wrote " + o.Out)
	}
	return text.String()
}

func equalOutcomes(a, b impl.Outcome) bool {
	return slices.EqualFunc(a.Answers, b.Answers, equalTerms) && a.End == b.End && equalTerms(a.Ball, b.Ball) && a.Out == b.Out && equalDbs(a.Db, b.Db) && a.Steps == b.Steps
}

// wantAskByRule holds Ask against the rule, and tells what it answers.
func wantAskByRule(t *testing.T, d impl.Db, goal impl.Term, steps int) impl.Outcome {
	t.Helper()
	got, want := impl.Ask(d, goal, steps), askByRule(d, goal, steps)
	if !equalOutcomes(got, want) {
		t.Fatalf("Ask(%s, %s, %d) = %s, %s; want %s, %s", programText(d), impl.WriteTerm(goal), steps, toldOf(got), programText(got.Db), toldOf(want), programText(want.Db))
	}
	return got
}

// programText is the clauses as they are read again.
func programText(d impl.Db) string {
	var all []string
	for _, c := range d.Clauses {
		all = append(all, impl.WriteTerm(impl.ClauseTerm(c)))
	}
	return strings.Join(all, " ")
}

// wantAsk reads the clauses and the goal, and asks for them with as many steps as may be.
func wantAsk(t *testing.T, clauses, goal, want string) {
	t.Helper()
	wantAskWithin(t, clauses, goal, 2000, want)
}

func wantAskWithin(t *testing.T, clauses, goal string, steps int, want string) {
	t.Helper()
	d, asked := readClauses(t, clauses, "f"), readOne(t, goal)
	got := wantAskByRule(t, d, asked, steps)
	if told := toldOf(got); told != want {
		t.Errorf("%s: told %q; want %q (of %s)", goal, told, want, clauses)
	}
}

// wantAskAfter also wants the clauses that there are at the end, as they are read again.
func wantAskAfter(t *testing.T, clauses, goal, want, after string) {
	t.Helper()
	wantAsk(t, clauses, goal, want)
	d := readClauses(t, clauses, "f")
	if got := programText(impl.Ask(d, readOne(t, goal), 2000).Db); got != after {
		t.Errorf("%s: the clauses at the end are %q; want %q (of %s)", goal, got, after, clauses)
	}
}

func TestAskConstantsAreTheDocuments(t *testing.T) {
	if impl.MaxAnswers != 8 || impl.MaxSteps != 2000 || impl.MaxVars != 3000 || impl.MaxOut != 2000 {
		t.Error("a limit of chapter 11 is another one")
	}
	if impl.EnDone != 0 || impl.EnStop != 1 || impl.EnBall != 2 || impl.EnMany != 3 {
		t.Error("an end is another one")
	}
}

func TestAskTellsAnswersInOrder(t *testing.T) {
	facts := "p(a). q(1). p(b). r. p(a). q(2). p(f(X, Y, X))."
	wantAsk(t, facts, "p(X)", "p(a) p(b) p(a) p(f(_1,_2,_1)): done at 5")
	wantAsk(t, facts, "q(X)", "q(1) q(2): done at 3")
	wantAsk(t, facts, "r", "r: done at 2")
	wantAsk(t, facts, "p(a)", "p(a) p(a): done at 3")
	wantAsk(t, facts, "p(c)", ": done at 1")
	wantAsk(t, facts, "p(f(b, Z, W))", "p(f(b,_0,b)): done at 2")
	wantAsk(t, facts, "q(X), p(f(a, X, Y))", "(q(1) , p(f(a,1,a))) (q(2) , p(f(a,2,a))): done at 8")
	wantAsk(t, facts, "p(X), q(Y)", "(p(a) , q(1)) (p(a) , q(2)) (p(b) , q(1)) (p(b) , q(2)) (p(a) , q(1)) (p(a) , q(2)) (p(f(_2,_3,_2)) , q(1)) (p(f(_2,_3,_2)) , q(2)): many at 18")
	wantAsk(t, facts, "q(X), q(Y), X < Y", "(q(1) , (q(2) , (1 < 2))): done at 16")
}

func TestAskOfPredicatesWithoutClauses(t *testing.T) {
	d := impl.Opened(readClauses(t, "p(a). q :- o(X), write(no). r :- \\+ o(X).", "f"), "o/1")
	for goal, want := range map[string]string{
		"o(X)": ": done at 1", "o(a)": ": done at 1", "q": ": done at 3", "r": "r: done at 4", "(o(X) ; p(X))": "(o(a) ; p(a)): done at 4",
		"o": ": ball error(unknown,'o/0') at 1", "o(X, Y)": ": ball error(unknown,'o/2') at 1", "p": ": ball error(unknown,'p/0') at 1",
		"assertz(o(1)), o(X)": "(assertz(o(1)) , o(1)): done at 4", "assertz(o(1)), retract(o(1)), o(X)": ": done at 5", "retract(p(a)), p(X)": ": ball error(unknown,'p/1') at 3",
	} {
		if told := toldOf(wantAskByRule(t, d, readOne(t, goal), 100)); told != want {
			t.Errorf("%s: told %q; want %q", goal, told, want)
		}
	}
}

func TestAskTellsEightAnswersAtMost(t *testing.T) {
	for many := range 12 {
		d := impl.Db{Open: []string{"p/1"}}
		var answers []string
		for i := range many {
			d.Clauses = append(d.Clauses, factOf("p", i))
			answers = append(answers, fmt.Sprintf("p(%d)", i))
		}
		want := fmt.Sprintf("%s: done at %d", strings.Join(answers, " "), many+1)
		if many >= 8 {
			want = strings.Join(answers[:8], " ") + ": many at 9"
		}
		if told := toldOf(wantAskByRule(t, d, structTerm("p", varTerm(0)), 2000)); told != want {
			t.Errorf("of %d: told %q; want %q", many, told, want)
		}
	}
	wantAsk(t, "n(z). n(s(N)) :- n(N).", "n(X)", "n(z) n(s(z)) n(s(s(z))) n(s(s(s(z)))) n(s(s(s(s(z))))) n(s(s(s(s(s(z)))))) n(s(s(s(s(s(s(z))))))) n(s(s(s(s(s(s(s(z)))))))): many at 16")
	// With the eighth one it ends, whatever stands behind it.
	eight := "p(1). p(2). p(3). p(4). p(5). p(6). p(7). p(8). "
	wantAsk(t, eight+"p(9) :- write(late).", "p(X)", "p(1) p(2) p(3) p(4) p(5) p(6) p(7) p(8): many at 9")
	wantAsk(t, eight+"p(X) :- throw(X).", "p(X)", "p(1) p(2) p(3) p(4) p(5) p(6) p(7) p(8): many at 9")
	wantAskWithin(t, eight, "p(X)", 9, "p(1) p(2) p(3) p(4) p(5) p(6) p(7) p(8): many at 9")
	wantAskWithin(t, eight, "p(X)", 8, "p(1) p(2) p(3) p(4) p(5) p(6) p(7): stop at 8")
	wantAsk(t, eight, "p(X), 7 < X", "(p(8) , (7 < 8)): done at 18")
}

// Answers ahead of what goes wrong are told all the same.
func TestAskTellsTheAnswersAheadOfTheEnd(t *testing.T) {
	wantAsk(t, "p(1). p(2). p(X) :- throw(X).", "p(Y)", "p(1) p(2): ball _0 at 4")
	wantAsk(t, "p(1). p(2) :- write(w). p(X) :- none.", "p(Y)", "p(1) p(2): ball error(unknown,'none/0') at 4, wrote w")
	wantAsk(t, "p(1). p(2). p(X) :- p(X), fail.", "p(2)", "p(2): stop at 2000")
	wantAskWithin(t, "p(1). p(2). p(3).", "p(X)", 3, "p(1) p(2): stop at 3")
}

func listsProgram() string {
	return "app([], L, L). app([H|T], L, [H|R]) :- app(T, L, R). mem(X, [X|_]). mem(X, [_|T]) :- mem(X, T). rev([], []). rev([H|T], R) :- rev(T, S), app(S, [H], R). " +
		"sel(X, [X|T], T). sel(X, [H|T], [H|R]) :- sel(X, T, R). perm([], []). perm(L, [H|T]) :- sel(H, L, R), perm(R, T). len([], 0). len([_|T], N) :- len(T, M), N is M + 1."
}

func TestAskOfLists(t *testing.T) {
	p := listsProgram()
	wantAsk(t, p, "app([a, b], [c], X)", "app([a,b],[c],[a,b,c]): done at 4")
	wantAsk(t, p, "app(X, Y, [a, b])", "app([],[a,b],[a,b]) app([a],[b],[a,b]) app([a,b],[],[a,b]): done at 6")
	wantAsk(t, p, "app(X, [L], [a, b, c])", "app([a,b],[c],[a,b,c]): done at 5")
	wantAsk(t, p, "mem(X, [a, b, a])", "mem(a,[a,b,a]) mem(b,[a,b,a]) mem(a,[a,b,a]): done at 7")
	wantAsk(t, p, "mem(c, [a, b])", ": done at 3")
	wantAsk(t, p, "Y = [_, _, Z], mem(X, Y)", "(([_1,_2,_3] = [_1,_2,_3]) , mem(_1,[_1,_2,_3])) (([_1,_2,_3] = [_1,_2,_3]) , mem(_2,[_1,_2,_3])) (([_1,_2,_3] = [_1,_2,_3]) , mem(_3,[_1,_2,_3])): done at 9")
	wantAsk(t, p, "rev([a, b, c], X)", "rev([a,b,c],[c,b,a]): done at 17")
	wantAsk(t, p, "len([a, b, c], N)", "len([a,b,c],3): done at 11")
	wantAsk(t, p, "perm([a, b, c], X)", "perm([a,b,c],[a,b,c]) perm([a,b,c],[a,c,b]) perm([a,b,c],[b,a,c]) perm([a,b,c],[b,c,a]) perm([a,b,c],[c,a,b]) perm([a,b,c],[c,b,a]): done at 84")
	wantAskWithin(t, p, "mem(X, Y)", 10, "mem(_0,[_0|_3]) mem(_0,[_3,_0|_6]) mem(_0,[_3,_6,_0|_9]) mem(_0,[_3,_6,_9,_0|_12]) mem(_0,[_3,_6,_9,_12,_0|_15]): stop at 10")
}

func TestAskOfEachGoalAlone(t *testing.T) {
	p := "p(a). p(b)."
	for goal, want := range map[string]string{
		"true": "true: done at 1", "fail": ": done at 1", "!": "!: done at 1",
		"true, true": "(true , true): done at 3", "true, fail": ": done at 3", "fail, true": ": done at 2",
		"true -> true": "(true -> true): done at 3", "true -> fail": ": done at 3", "fail -> true": ": done at 3",
		"true ; true": "(true ; true) (true ; true): done at 3", "fail ; true": "(fail ; true): done at 3", "fail ; fail": ": done at 3",
		"true -> true ; true": "((true -> true) ; true): done at 3", "fail -> true ; true": "((fail -> true) ; true): done at 3", "true -> fail ; true": ": done at 3", "fail -> true ; fail": ": done at 3",
		`\+ true`: ": done at 3", `\+ fail`: `\+(fail): done at 3`,
		"call(true)": "call(true): done at 2", "call(p(X))": "call(p(a)) call(p(b)): done at 4", "call(p, X)": "call(p,a) call(p,b): done at 4", "call((=), X, a)": "call((=),a,a): done at 2",
		"call(call, p, X)": "call(call,p,a) call(call,p,b): done at 5", "call(call(p), X)": "call(call(p),a) call(call(p),b): done at 5",
		"catch(true, X, true)": "catch(true,_0,true): done at 2", "catch(fail, X, true)": ": done at 2", "catch(throw(a), X, true)": "catch(throw(a),a,true): done at 3", "catch(throw(a), b, true)": ": ball a at 2",
		"throw(a)": ": ball a at 1", "throw(X)": ": ball _0 at 1", "throw(f(X, Y, X))": ": ball f(_0,_1,_0) at 1", "throw(3)": ": ball 3 at 1",
		"X = a": "(a = a): done at 1", "a = b": ": done at 1", "X = f(X)": ": done at 1", "X = Y": "(_0 = _0): done at 1", "f(X, b) = f(a, Y)": "(f(a,b) = f(a,b)): done at 1",
		`X \= a`: ": done at 1", `a \= b`: `(a \= b): done at 1`, `X \= f(X)`: `(_0 \= f(_0)): done at 1`, `f(X, b) \= f(a, c)`: `(f(_0,b) \= f(a,c)): done at 1`,
		"X == X": "(_0 == _0): done at 1", "X == Y": ": done at 1", "a == a": "(a == a): done at 1", "f(X) == f(X)": "(f(_0) == f(_0)): done at 1", "1 == 2": ": done at 1", "1 + 1 == 2": ": done at 1",
		"X is 1 + 2": "(3 is (1 + 2)): done at 1", "3 is 1 + 2": "(3 is (1 + 2)): done at 1", "4 is 1 + 2": ": done at 1", "1 + 2 is 1 + 2": ": done at 1", "f(X) is 1": ": done at 1",
		"1 < 2": "(1 < 2): done at 1", "2 < 2": ": done at 1", "3 < 2": ": done at 1", "1 + 1 < 2 + 1": "((1 + 1) < (2 + 1)): done at 1",
		"1 + 1 =:= 2": "((1 + 1) =:= 2): done at 1", "1 =:= 2": ": done at 1", "2 =:= 1": ": done at 1",
		"var(X)": "var(_0): done at 1", "var(a)": ": done at 1", "var(1)": ": done at 1", "var(f(X))": ": done at 1",
		"atom(a)": "atom(a): done at 1", "atom([])": "atom([]): done at 1", "atom(X)": ": done at 1", "atom(1)": ": done at 1", "atom(f(a))": ": done at 1",
		"write(a)": "write(a): done at 1, wrote a", "write(f(X, 'A', [1, -2]))": "write(f(_0,'A',[1,-2])): done at 1, wrote f(_0,'A',[1,-2])", "write(X)": "write(_0): done at 1, wrote _0",
		"assertz(q(a))": "assertz(q(a)): done at 1", "retract(p(a))": "retract(p(a)): done at 1", "retract(p(X))": "retract(p(a)): done at 1", "retract(p(c))": ": done at 1", "retract(none)": ": done at 1",
		"X": ": ball error(inst,'call/1') at 1", "3": ": ball error(type,'call/1') at 1", "-3": ": ball error(type,'call/1') at 1",
		"a :- b": ": ball error(type,':-/2') at 1", ":- a": ": ball error(type,':-/1') at 1", "a --> b": ": ball error(type,'-->/2') at 1",
		"p(X)": "p(a) p(b): done at 3", "none": ": ball error(unknown,'none/0') at 1", "[]": ": ball error(unknown,'[]/0') at 1", "[a]": ": ball error(unknown,'./2') at 1", "f(X, Y)": ": ball error(unknown,'f/2') at 1",
	} {
		wantAsk(t, p, goal, want)
	}
}

// The same goals behind TmVars that stand for what is in them, and for themselves.
func TestAskOfWhatNamesStandFor(t *testing.T) {
	p := "p(a). p(b)."
	wantAsk(t, p, "X = a, var(X)", ": done at 3")
	wantAsk(t, p, "X = Y, var(X), var(Y)", "((_0 = _0) , (var(_0) , var(_0))): done at 5")
	wantAsk(t, p, "X = a, atom(X)", "((a = a) , atom(a)): done at 3")
	wantAsk(t, p, "X = f(Y), Y = a, write(X)", "((f(a) = f(a)) , ((a = a) , write(f(a)))): done at 5, wrote f(a)")
	wantAsk(t, p, "X = 3, Y is X * X", "((3 = 3) , (9 is (3 * 3))): done at 3")
	wantAsk(t, p, "X = 1 + 1, X =:= 2, X < 3", "(((1 + 1) = (1 + 1)) , (((1 + 1) =:= 2) , ((1 + 1) < 3))): done at 5")
	wantAsk(t, p, "X = f(Z), Y = f(a), X == Y", ": done at 5")
	wantAsk(t, p, "X = f(Z), Y = f(a), Z = a, X == Y", "((f(a) = f(a)) , ((f(a) = f(a)) , ((a = a) , (f(a) == f(a))))): done at 7")
	wantAsk(t, p, `X = a, X \= b`, `((a = a) , (a \= b)): done at 3`)
	wantAsk(t, p, "X = p(Y), X", "((p(a) = p(a)) , p(a)) ((p(b) = p(b)) , p(b)): done at 5")
	wantAsk(t, p, "X = p(Y), call(X)", "((p(a) = p(a)) , call(p(a))) ((p(b) = p(b)) , call(p(b))): done at 6")
	wantAsk(t, p, "X = p, call(X, Y)", "((p = p) , call(p,a)) ((p = p) , call(p,b)): done at 6")
	wantAsk(t, p, "X = Y, Y = true, X", "((true = true) , ((true = true) , true)): done at 5")
	wantAsk(t, p, "X = 3, X", ": ball error(type,'call/1') at 3")
	wantAsk(t, p, "X = Y, X", ": ball error(inst,'call/1') at 3")
	wantAsk(t, p, "X = a, throw(f(X, Y))", ": ball f(a,_1) at 3")
	wantAsk(t, p, "X = (fail ; p(Y)), X", "(((fail ; p(a)) = (fail ; p(a))) , (fail ; p(a))) (((fail ; p(b)) = (fail ; p(b))) , (fail ; p(b))): done at 7")
	wantAsk(t, p, "X = (a :- b), X", ": ball error(type,':-/2') at 3")
	wantAsk(t, p, "X = 3, call(X, a, b)", ": ball error(type,'call/3') at 3")
	wantAsk(t, p, "X = throw, call(X, ball)", ": ball ball at 4")
}

// A name with another number of Kids than that of the document is a predicate like any other.
func TestAskOfOtherNumbersOfKids(t *testing.T) {
	for _, control := range controlByRule {
		name := control[:strings.LastIndexByte(control, '/')]
		for many := range 6 {
			goal := headOf(fmt.Sprintf("%s/%d", name, many))
			pred := predByRule(goal)
			if slices.Contains(controlByRule, pred) {
				continue
			}
			want := fmt.Sprintf(": ball %s at 1", impl.WriteTerm(structTerm("error", atomTerm("unknown"), atomTerm(pred))))
			if told := toldOf(wantAskByRule(t, impl.Db{}, goal, 100)); told != want {
				t.Errorf("%s: told %q; want %q", pred, told, want)
			}
			d := impl.Db{Clauses: []impl.Clause{{Head: goal, Body: structTerm("write", atomTerm("so"))}}}
			want = impl.WriteTerm(goal) + ": done at 2, wrote so"
			if told := toldOf(wantAskByRule(t, d, goal, 100)); told != want {
				t.Errorf("%s: told %q; want %q", pred, told, want)
			}
		}
	}
}

func cutsProgram() string {
	return "p(1). p(2). p(3). " +
		"c1(X) :- p(X), !. c1(9). c2(X) :- !, p(X). c2(9). c3(X) :- p(X), (true, ! ; fail). c3(9). c4(X) :- p(X), (fail ; !). c4(9). c5(X) :- (! ; true), p(X). c5(9). " +
		"c6(X) :- (p(X), ! -> true ; true), p(_). c6(9). c7(X) :- (p(X) -> ! ; true). c7(9). c8(X) :- (fail -> true ; !), p(X). c8(9). c9(X) :- p(X), call(!). c9(9). " +
		`d1(X) :- p(X), \+ \+ !. d1(9). d2(X) :- p(X), catch(!, _, true). d2(9). d3(X) :- catch(throw(a), _, !), p(X). d3(9). d4(X) :- Y = !, p(X), Y. d4(9). ` +
		"d5(X) :- p(X), call((','), true, !). d5(9). d6(X) :- call((p(X), !)). d6(9). d7 :- !, fail. d7. d8(X) :- !. d8(9). d9(X) :- p(X), X = 2, !. d9(9). e1(X) :- p(X), d7. e1(9). e2(X) :- p(X), c1(Y), !. e2(9). e3(X) :- X. e3(9). e4(X) :- (p(X), \\+ ! ; p(X)), !. e4(9)."
}

func TestAskCutsInClauses(t *testing.T) {
	p := cutsProgram()
	wantAsk(t, p, "c1(X)", "c1(1): done at 5")
	wantAsk(t, p, "c2(X)", "c2(1) c2(2) c2(3): done at 7")
	wantAsk(t, p, "c3(X)", "c3(1): done at 8")
	wantAsk(t, p, "c4(X)", "c4(1): done at 7")
	wantAsk(t, p, "c5(X)", "c5(1) c5(2) c5(3): done at 8")
	wantAsk(t, p, "c6(X)", "c6(1) c6(1) c6(1) c6(9): done at 13")
	wantAsk(t, p, "c7(X)", "c7(1): done at 5")
	wantAsk(t, p, "c8(X)", "c8(1) c8(2) c8(3): done at 9")
	wantAsk(t, p, "c9(X)", "c9(1) c9(2) c9(3) c9(9): done at 13")
	wantAsk(t, p, "d1(X)", "d1(1) d1(2) d1(3) d1(9): done at 22")
	wantAsk(t, p, "d2(X)", "d2(1) d2(2) d2(3) d2(9): done at 13")
	wantAsk(t, p, "d3(X)", "d3(1) d3(2) d3(3): done at 9")
	wantAsk(t, p, "d4(X)", "d4(1): done at 7")
	wantAsk(t, p, "d5(X)", "d5(1) d5(2) d5(3) d5(9): done at 19")
	wantAsk(t, p, "d6(X)", "d6(1) d6(9): done at 7")
	wantAsk(t, p, "d7", ": done at 4")
	wantAsk(t, p, "d8(X)", "d8(_0): done at 2")
	wantAsk(t, p, "d9(X)", "d9(2): done at 10")
	wantAsk(t, p, "e1(X)", "e1(9): done at 19")
	wantAsk(t, p, "e2(X)", "e2(1): done at 11")
	wantAsk(t, p, "e3(!)", "e3(!): done at 3")
	wantAsk(t, p, "e3((p(X), !))", "e3((p(1) , !)): done at 6")
	wantAsk(t, p, "e4(X)", "e4(1): done at 20")
	wantAsk(t, p, `\+ d7`, `\+(d7): done at 6`)
}

func TestAskCutsInTheGoalAsked(t *testing.T) {
	p := cutsProgram()
	wantAsk(t, p, "p(X), !", "(p(1) , !): done at 4")
	wantAsk(t, p, "!, p(X)", "(! , p(1)) (! , p(2)) (! , p(3)): done at 6")
	wantAsk(t, p, "p(X), c1(Y)", "(p(1) , c1(1)) (p(2) , c1(1)) (p(3) , c1(1)): done at 20")
	wantAsk(t, p, "p(X), (! ; true)", "(p(1) , (! ; true)): done at 5")
	wantAsk(t, p, "(p(X), ! ; true)", "((p(1) , !) ; true): done at 5")
	wantAsk(t, p, "(fail ; p(X), !)", "(fail ; (p(1) , !)): done at 6")
	wantAsk(t, p, "p(X), (p(Y) -> ! ; true)", "(p(1) , ((p(1) -> !) ; true)): done at 7")
	wantAsk(t, p, "p(X), (p(Y) -> true ; !)", "(p(1) , ((p(1) -> true) ; !)) (p(2) , ((p(1) -> true) ; !)) (p(3) , ((p(1) -> true) ; !)): done at 17")
	wantAsk(t, p, "p(X), (fail -> true ; !)", "(p(1) , ((fail -> true) ; !)): done at 6")
	wantAsk(t, p, "p(X), (p(Y) -> !)", "(p(1) , (p(1) -> !)): done at 7")
	wantAsk(t, p, "(p(X) -> p(Y)), !", "((p(1) -> p(1)) , !): done at 7")
	wantAsk(t, p, "p(X), (p(Y), ! -> true), p(Z), !", "(p(1) , (((p(1) , !) -> true) , (p(1) , !))): done at 14")
	wantAsk(t, p, "p(X), call(!)", "(p(1) , call(!)) (p(2) , call(!)) (p(3) , call(!)): done at 11")
	wantAsk(t, p, `p(X), \+ !`, ": done at 14")
	wantAsk(t, p, "p(X), catch((p(Y), !), _, true)", "(p(1) , catch((p(1) , !),_2,true)) (p(2) , catch((p(1) , !),_2,true)) (p(3) , catch((p(1) , !),_2,true)): done at 20")
	wantAsk(t, p, "p(X), catch((p(Y), !, throw(b)), B, (p(Z), !))", "(p(1) , catch((p(_1) , (! , throw(b))),b,(p(1) , !))): done at 14")
	wantAsk(t, p, "X = !, p(Y), X", "((! = !) , (p(1) , !)): done at 6")
	wantAsk(t, p, "X = (p(Y), !), X", "(((p(1) , !) = (p(1) , !)) , (p(1) , !)): done at 6")
	wantAsk(t, p, "p(Z), X = (p(Y), !), call(X)", "(p(1) , (((p(1) , !) = (p(1) , !)) , call((p(1) , !)))) (p(2) , (((p(1) , !) = (p(1) , !)) , call((p(1) , !)))) (p(3) , (((p(1) , !) = (p(1) , !)) , call((p(1) , !)))): done at 26")
	wantAsk(t, p, "p(X), call((','), p(Y), !)", "(p(1) , call((','),p(1),!)) (p(2) , call((','),p(1),!)) (p(3) , call((','),p(1),!)): done at 20")
	wantAsk(t, p, "call((p(X), !, p(Y)))", "call((p(1) , (! , p(1)))) call((p(1) , (! , p(2)))) call((p(1) , (! , p(3)))): done at 10")
	wantAsk(t, p, "!, !, !", "(! , (! , !)): done at 5")
}

func TestAskOfConditions(t *testing.T) {
	p := "p(1). p(2). p(3). q(b). t(X) :- (X = 1 -> write(one) ; X = 2 -> write(two) ; write(other))."
	wantAsk(t, p, "p(X) -> true", "(p(1) -> true): done at 4")
	wantAsk(t, p, "p(X) -> p(Y)", "(p(1) -> p(1)) (p(1) -> p(2)) (p(1) -> p(3)): done at 7")
	wantAsk(t, p, "(p(X), X = 2 -> p(Y) ; p(Z))", "(((p(2) , (2 = 2)) -> p(1)) ; p(_2)) (((p(2) , (2 = 2)) -> p(2)) ; p(_2)) (((p(2) , (2 = 2)) -> p(3)) ; p(_2)): done at 11")
	wantAsk(t, p, "(p(X), fail -> p(Y) ; q(Z))", "(((p(_0) , fail) -> p(_1)) ; q(b)): done at 11")
	wantAsk(t, p, "(p(X) -> fail ; true)", ": done at 4")
	wantAsk(t, p, "(p(X), ! ; p(X)) -> true", "(((p(1) , !) ; p(1)) -> true): done at 7")
	wantAsk(t, p, "((p(X), !, fail ; p(X)) -> true ; X = none)", "((((p(none) , (! , fail)) ; p(none)) -> true) ; (none = none)): done at 9")
	wantAsk(t, p, "((p(X) -> p(Y)) -> p(Z))", "((p(1) -> p(1)) -> p(1)) ((p(1) -> p(1)) -> p(2)) ((p(1) -> p(1)) -> p(3)): done at 10")
	wantAsk(t, p, "((fail -> true) -> a ; q(Z))", "(((fail -> true) -> a) ; q(b)): done at 6")
	wantAsk(t, p, "(true -> (fail -> a ; p(X)) ; b)", "((true -> ((fail -> a) ; p(1))) ; b) ((true -> ((fail -> a) ; p(2))) ; b) ((true -> ((fail -> a) ; p(3))) ; b): done at 8")
	wantAsk(t, p, "(p(X) -> true ; true), p(Y)", "(((p(1) -> true) ; true) , p(1)) (((p(1) -> true) ; true) , p(2)) (((p(1) -> true) ; true) , p(3)): done at 9")
	wantAsk(t, p, "p(Y), (p(X) -> true ; true)", "(p(1) , ((p(1) -> true) ; true)) (p(2) , ((p(1) -> true) ; true)) (p(3) , ((p(1) -> true) ; true)): done at 17")
	wantAsk(t, p, "t(1), t(2), t(3)", "(t(1) , (t(2) , t(3))): done at 18, wrote onetwoother")
	wantAsk(t, p, "t(X)", "t(1): done at 4, wrote one")
	wantAsk(t, p, "(p(X) -> throw(X) ; true)", ": ball 1 at 4")
	wantAsk(t, p, "(throw(a) -> true ; true)", ": ball a at 2")
	wantAsk(t, p, "catch((throw(a) -> true ; true), a, write(caught))", "catch(((throw(a) -> true) ; true),a,write(caught)): done at 4, wrote caught")
	wantAsk(t, p, "(catch(throw(a), a, true) -> p(X) ; true)", "((catch(throw(a),a,true) -> p(1)) ; true) ((catch(throw(a),a,true) -> p(2)) ; true) ((catch(throw(a),a,true) -> p(3)) ; true): done at 8")
	wantAsk(t, p, "(true, p(X) ; q(Y))", "((true , p(1)) ; q(_1)) ((true , p(2)) ; q(_1)) ((true , p(3)) ; q(_1)) ((true , p(_0)) ; q(b)): done at 9")
	// The first one becomes `->` by what a TmVar stands for.
	wantAsk(t, p, "X = (p(Y) -> q(Z)), (X ; p(Y))", "(((p(1) -> q(b)) = (p(1) -> q(b))) , ((p(1) -> q(b)) ; p(1))): done at 7")
	wantAsk(t, p, "X = (fail -> q(Z)), (X ; p(Y))", "(((fail -> q(_1)) = (fail -> q(_1))) , ((fail -> q(_1)) ; p(1))) (((fail -> q(_1)) = (fail -> q(_1))) , ((fail -> q(_1)) ; p(2))) (((fail -> q(_1)) = (fail -> q(_1))) , ((fail -> q(_1)) ; p(3))): done at 8")
	wantAsk(t, p, "X = (p(Y) -> q(Z)), (q(a) ; X)", "(((p(1) -> q(b)) = (p(1) -> q(b))) , (q(a) ; (p(1) -> q(b)))): done at 9")
	wantAsk(t, p, "X = Y, Y = (true -> q(Z)), (X ; p(W))", "(((true -> q(b)) = (true -> q(b))) , (((true -> q(b)) = (true -> q(b))) , ((true -> q(b)) ; p(_3)))): done at 8")
	wantAsk(t, p, "(call((true -> q(Z))) ; p(W))", "(call((true -> q(b))) ; p(_1)) (call((true -> q(_0))) ; p(1)) (call((true -> q(_0))) ; p(2)) (call((true -> q(_0))) ; p(3)): done at 10")
}

func TestAskOfWhatIsNot(t *testing.T) {
	p := "p(1). p(2). p(3)."
	wantAsk(t, p, `\+ p(X)`, ": done at 4")
	wantAsk(t, p, `\+ p(4)`, `\+(p(4)): done at 3`)
	wantAsk(t, p, `\+ \+ p(X)`, `\+(\+(p(_0))): done at 6`)
	wantAsk(t, p, `\+ (p(X), X = 4)`, `\+((p(_0) , (_0 = 4))): done at 10`)
	wantAsk(t, p, `\+ throw(a)`, ": ball a at 2")
	wantAsk(t, p, `p(X), \+ X = 2`, `(p(1) , \+((1 = 2))) (p(3) , \+((3 = 2))): done at 14`)
	wantAsk(t, p, `\+ !, p(X)`, ": done at 4")
	wantAsk(t, p, `p(X), \+ (!, fail)`, `(p(1) , \+((! , fail))) (p(2) , \+((! , fail))) (p(3) , \+((! , fail))): done at 20`)
	wantAsk(t, p, `(\+ (p(X), !, fail)), X = ok`, `(\+((p(ok) , (! , fail))) , (ok = ok)): done at 10`)
	wantAsk(t, p, `\+ X`, ": ball error(inst,'call/1') at 2")
	wantAsk(t, p, `X = fail, \+ X`, `((fail = fail) , \+(fail)): done at 5`)
}

func catchProgram() string {
	return "p(1). p(2). p(3). in(X) :- catch(p(X), _, fail). n(X) :- X is 1 // 0. deep(0) :- throw(bottom). deep(N) :- M is N - 1, deep(M). k(X) :- catch(throw(X), a, true). k(late). rec(X) :- catch(throw(x), x, p(X)). rec(9). cutrec(X) :- catch(throw(x), x, !), p(X). cutrec(9)."
}

func TestAskCatchesBalls(t *testing.T) {
	p := catchProgram()
	wantAsk(t, p, "catch(throw(in), in, write(1))", "catch(throw(in),in,write(1)): done at 3, wrote 1")
	wantAsk(t, p, "catch(catch(throw(a), a, write(inner)), a, write(outer))", "catch(catch(throw(a),a,write(inner)),a,write(outer)): done at 4, wrote inner")
	wantAsk(t, p, "catch(catch(throw(b), a, write(inner)), b, write(outer))", "catch(catch(throw(b),a,write(inner)),b,write(outer)): done at 4, wrote outer")
	wantAsk(t, p, "catch(catch(throw(c), a, write(inner)), b, write(outer))", ": ball c at 3")
	wantAsk(t, p, "catch((p(X), throw(X)), 2, true)", ": ball 1 at 5")
	wantAsk(t, p, "catch((p(X), X = 2, throw(X)), 2, true)", "catch((p(_0) , ((_0 = 2) , throw(_0))),2,true): done at 11")
	wantAsk(t, p, "(p(X), catch(throw(X), 2, true) ; true)", ": ball 1 at 6")
	wantAsk(t, p, "catch(deep(5), B, true)", "catch(deep(5),bottom,true): done at 19")
	wantAsk(t, p, "catch((write(a), throw(b)), b, write(c)), write(d)", "(catch((write(a) , throw(b)),b,write(c)) , write(d)): done at 7, wrote acd")
	wantAsk(t, p, "p(X), catch(throw(X), Y, Y = 2)", "(p(2) , catch(throw(2),2,(2 = 2))): done at 14")
	wantAsk(t, p, "catch(call((p(X), throw(X))), B, true)", "catch(call((p(_0) , throw(_0))),1,true): done at 7")
	wantAsk(t, p, `catch(\+ \+ throw(a), a, true)`, `catch(\+(\+(throw(a))),a,true): done at 5`)
	wantAsk(t, p, "k(a)", "k(a): done at 4")
	wantAsk(t, p, "k(b)", ": ball b at 3")
	wantAsk(t, p, "k(X)", "k(_0) k(late): done at 5")
}

// The third one stands where the catch stood, with its mark, and is in it no more.
func TestAskOfTheThirdOneOfACatch(t *testing.T) {
	p := catchProgram()
	wantAsk(t, p, "catch(catch(throw(a), a, throw(b)), b, write(outer))", "catch(catch(throw(a),a,throw(b)),b,write(outer)): done at 5, wrote outer")
	wantAsk(t, p, "catch(catch(throw(a), a, throw(a)), a, write(outer))", "catch(catch(throw(a),a,throw(a)),a,write(outer)): done at 5, wrote outer")
	wantAsk(t, p, "catch(catch(throw(a), X, throw(X)), Y, true)", "catch(catch(throw(a),_0,throw(_0)),a,true): done at 5")
	wantAsk(t, p, "catch(throw(a), a, throw(b))", ": ball b at 3")
	wantAsk(t, p, "catch(throw(a), a, throw(a))", ": ball a at 3")
	wantAsk(t, p, "rec(X)", "rec(1) rec(2) rec(3) rec(9): done at 8")
	wantAsk(t, p, "cutrec(X)", "cutrec(1) cutrec(2) cutrec(3): done at 9")
	wantAsk(t, p, "p(Y), catch(throw(x), x, !)", "(p(1) , catch(throw(x),x,!)): done at 6")
	wantAsk(t, p, "catch(throw(a), a, (p(X) ; p(Y)))", "catch(throw(a),a,(p(1) ; p(_1))) catch(throw(a),a,(p(2) ; p(_1))) catch(throw(a),a,(p(3) ; p(_1))) catch(throw(a),a,(p(_0) ; p(1))) catch(throw(a),a,(p(_0) ; p(2))) catch(throw(a),a,(p(_0) ; p(3))): done at 11")
	wantAsk(t, p, "catch(throw(p(X)), G, G)", "catch(throw(p(_0)),p(1),p(1)) catch(throw(p(_0)),p(2),p(2)) catch(throw(p(_0)),p(3),p(3)): done at 6")
	wantAsk(t, p, "catch(throw(a), X, X)", ": ball error(unknown,'a/0') at 3")
	wantAsk(t, p, "catch((throw(a) ; true), a, fail)", ": done at 4")
	wantAsk(t, p, "(catch(throw(a), a, fail) ; write(other))", "(catch(throw(a),a,fail) ; write(other)): done at 5, wrote other")
	wantAsk(t, p, "catch((p(X), throw(X)), B, p(B))", "catch((p(_0) , throw(_0)),1,p(1)): done at 7")
}

// What is done is not open, and is open again for who goes back into it.
func TestAskOfCatchesThatAreOpen(t *testing.T) {
	p := catchProgram()
	wantAsk(t, p, "catch(true, a, true), throw(a)", ": ball a at 4")
	wantAsk(t, p, "catch((catch(true, a, write(no)), throw(a)), a, write(yes))", "catch((catch(true,a,write(no)) , throw(a)),a,write(yes)): done at 6, wrote yes")
	wantAsk(t, p, "catch(p(X), _, true), throw(X)", ": ball 1 at 5")
	wantAsk(t, p, "catch((catch(p(X), _, write(no)), throw(X)), B, write(yes))", "catch((catch(p(_0),_1,write(no)) , throw(_0)),1,write(yes)): done at 7, wrote yes")
	wantAsk(t, p+" w(1). w(2) :- throw(back). w(3).", "catch(w(X), B, write(B)), 1 < X", ": ball error(inst,'</2') at 8, wrote back")
	wantAsk(t, p+" w(1). w(2) :- throw(back).", "catch(w(X), B, true), write(X), X = 2", "(catch(w(2),back,true) , (write(2) , (2 = 2))): done at 12, wrote 1_0")
	wantAsk(t, p+" w(1). w(2) :- throw(back).", "catch((catch(w(X), no, true), write(X), X = 2), B, write(B))", "catch((catch(w(_0),no,true) , (write(_0) , (_0 = 2))),back,write(back)): done at 10, wrote 1back")
	wantAsk(t, p, "catch(p(X), B, true), 1 < X, throw(X)", ": ball 2 at 10")
	wantAsk(t, p, "catch(in(X), _, true)", "catch(in(1),_1,true) catch(in(2),_1,true) catch(in(3),_1,true): done at 7")
	wantAsk(t, p, "catch((in(X), throw(b)), b, X = none)", "catch((in(none) , throw(b)),b,(none = none)): done at 8")
	wantAsk(t, p, "catch((p(X), !), B, true), throw(X)", ": ball 1 at 7")
	wantAsk(t, p, "catch((true ; throw(a)), a, true), fail", ": done at 8")
	wantAsk(t, p, "catch((true ; throw(a)), a, write(w)), !, fail", ": done at 7")
}

// What TmVars stood for when the catch was taken they stand for again; what was written, or added, stays.
func TestAskGoesBackToTheCatch(t *testing.T) {
	p := catchProgram()
	wantAsk(t, p, "catch((X = a, throw(b)), b, var(X))", "catch(((_0 = a) , throw(b)),b,var(_0)): done at 5")
	wantAsk(t, p, "X = Y, catch((X = a, throw(b)), b, (var(X), X == Y))", "((_0 = _0) , catch(((_0 = a) , throw(b)),b,(var(_0) , (_0 == _0)))): done at 9")
	wantAsk(t, p, "X = a, catch(throw(f(X)), f(Y), true)", "((a = a) , catch(throw(f(a)),f(a),true)): done at 5")
	wantAsk(t, p, "catch(throw(f(X)), f(a), true), var(X)", "(catch(throw(f(_0)),f(a),true) , var(_0)): done at 5")
	wantAsk(t, p, "catch(catch((X = a, throw(f(X))), f(b), true), f(Y), (var(X), X = Y))", "catch(catch(((a = a) , throw(f(a))),f(b),true),f(a),(var(a) , (a = a))): done at 8")
	wantAskAfter(t, "p(1).", "catch((assertz(q(1)), throw(b)), b, q(X))", "catch((assertz(q(1)) , throw(b)),b,q(1)): done at 6", "(p(1) :- true) (q(1) :- true)")
	wantAskAfter(t, "p(1). p(2).", "catch((retract(p(1)), throw(b)), b, p(X))", "catch((retract(p(1)) , throw(b)),b,p(2)): done at 6", "(p(2) :- true)")
	wantAskAfter(t, "p(1).", "assertz(q(1)), write(w), throw(b)", ": ball b at 5, wrote w", "(p(1) :- true) (q(1) :- true)")
}

func TestAskGivesABallNewVars(t *testing.T) {
	p := catchProgram()
	wantAsk(t, p, "catch(throw(X), Y, true)", "catch(throw(_0),_1,true): done at 3")
	wantAsk(t, p, "catch(throw(f(X, Y, X)), Z, true)", "catch(throw(f(_0,_1,_0)),f(_3,_4,_3),true): done at 3")
	wantAsk(t, p, "catch(throw(f(Y, X, Y, Z)), f(a, B, C, W), true)", "catch(throw(f(_0,_1,_0,_2)),f(a,_3,a,_5),true): done at 3")
	wantAsk(t, p, "catch((X = a, throw(f(X, Y))), Z, true)", "catch(((_0 = a) , throw(f(_0,_1))),f(a,_3),true): done at 5")
	wantAsk(t, p, "catch((Z = g(X), throw(f(X, Y, Z))), f(A, B, C), true)", "catch(((_0 = g(_1)) , throw(f(_1,_2,_0))),f(_3,_4,g(_3)),true): done at 5")
	wantAsk(t, p, "catch((p(Q), throw(f(X))), f(Y), Y = Q)", "catch((p(_0) , throw(f(_1))),f(_0),(_0 = _0)): done at 6")
	// Those of clauses that were called within are used no more.
	wantAsk(t, "w(X) :- v(Y, Z, X). v(A, B, C) :- throw(g(B, A)).", "catch(w(X), Y, true)", "catch(w(_0),g(_2,_3),true): done at 5")
	wantAsk(t, "w(X) :- v(Y, Z, X). v(A, B, C) :- throw(g(B, A)).", "w(X)", ": ball g(_3,_2) at 3")
	wantAsk(t, p, "catch(throw(g(X)), g(Y), true), catch(throw(g(X)), Z, true)", "(catch(throw(g(_0)),g(_1),true) , catch(throw(g(_0)),g(_4),true)): done at 7")
}

func TestAskThrowsFaults(t *testing.T) {
	p := "p. '12345678901234567'(a)."
	for goal, ball := range map[string]string{
		"X is Y": "inst,'is/2'", "X is a": "type,'is/2'", "X is 999999999 + 1": "range,'is/2'", "X is 1 // 0": "zero,'is/2'", "f(X) is X": "inst,'is/2'", "a is b": "type,'is/2'",
		"Y < 1": "inst,'</2'", "1 < Y": "inst,'</2'", "a < 1": "type,'</2'", "1 < a": "type,'</2'", "999999999 * 2 < 1": "range,'</2'", "1 < 999999999 * 2": "range,'</2'", "1 // 0 < 1": "zero,'</2'", "1 < 1 // 0": "zero,'</2'",
		"a < Y": "type,'</2'", "Y < a": "inst,'</2'", "1 // 0 < a": "zero,'</2'", "a < 1 // 0": "type,'</2'", "999999999 * 2 < Y": "range,'</2'", "Y < 999999999 * 2": "inst,'</2'",
		"Y =:= 1": "inst,'=:=/2'", "1 =:= Y": "inst,'=:=/2'", "a =:= 1": "type,'=:=/2'", "1 =:= a": "type,'=:=/2'", "999999999 + 1 =:= 1": "range,'=:=/2'", "1 =:= 999999999 + 1": "range,'=:=/2'", "1 // 0 =:= 1": "zero,'=:=/2'", "1 =:= 1 // 0": "zero,'=:=/2'",
		"a =:= Y": "type,'=:=/2'", "Y =:= a": "inst,'=:=/2'", "1 // 0 =:= Y": "zero,'=:=/2'",
		"assertz(3)": "type,'assertz/1'", "assertz(X)": "type,'assertz/1'", "assertz((X :- a))": "type,'assertz/1'", "assertz((3 :- a))": "type,'assertz/1'", "assertz((true :- a))": "type,'assertz/1'", "assertz(true)": "type,'assertz/1'",
		"assertz((a, b))": "type,'assertz/1'", "assertz((:- a))": "type,'assertz/1'", "assertz((a --> b))": "type,'assertz/1'", "assertz(((a :- b) :- c))": "type,'assertz/1'",
		"retract(X)": "inst,'retract/1'", "retract(3)": "type,'retract/1'", "retract((X :- a))": "inst,'retract/1'", "retract((3 :- a))": "type,'retract/1'", "retract(-3)": "type,'retract/1'",
		"call(X)": "inst,'call/1'", "call(3)": "type,'call/1'", "call(X, a)": "inst,'call/2'", "call(3, a)": "type,'call/2'", "call(X, a, b)": "inst,'call/3'", "call(3, a, b)": "type,'call/3'",
		"call(f(1, 2, 3, 4, 5), a)": "type,'call/2'", "call(f(1, 2, 3, 4), a, b)": "type,'call/3'", "call(f(1, 2, 3, 4), a)": "unknown,'f/5'", "call(f(1, 2, 3), a, b)": "unknown,'f/5'", "call(f(1, 2, 3, 4, 5))": "unknown,'f/5'",
		"a :- b": "type,':-/2'", ":- a": "type,':-/1'", "a --> b": "type,'-->/2'", "call((:-), a)": "type,':-/1'", "call((:-), a, b)": "type,':-/2'", "call((-->), a, b)": "type,'-->/2'",
		"none": "unknown,'none/0'", "p(a)": "unknown,'p/1'", "'123456789012345678'(a)": "unknown,'123456789012345678/1'", "'1234567890123456789'(a)": "unknown,none", "'12345678901234567890'": "unknown,none",
	} {
		d := readClauses(t, p, "f")
		o := wantAskByRule(t, d, readOne(t, goal), 100)
		if told := impl.WriteTerm(o.Ball); o.End != impl.EnBall || len(o.Answers) != 0 || told != "error("+ball+")" {
			t.Errorf("%s: told %q; want a ball error(%s)", goal, toldOf(o), ball)
		}
		// And caught, with the third one behind it.
		caught := structTerm("catch", impl.Shifted(readOne(t, goal), 5), varTerm(0), structTerm("write", varTerm(0)))
		c := wantAskByRule(t, d, caught, 100)
		if c.End != impl.EnDone || len(c.Answers) != 1 || c.Out != "error("+ball+")" || c.Steps != o.Steps+2 {
			t.Errorf("catch of %s: told %q", goal, toldOf(c))
		}
	}
	wantAsk(t, p, "'12345678901234567'(b)", ": done at 1")
	wantAsk(t, p, "catch(X is Y, error(type, P), true)", ": ball error(inst,'is/2') at 2")
}

func TestAskAddsClauses(t *testing.T) {
	p := "p(1). p(2)."
	was := "(p(1) :- true) (p(2) :- true)"
	wantAskAfter(t, p, "assertz(p(3)), p(X)", "(assertz(p(3)) , p(1)) (assertz(p(3)) , p(2)) (assertz(p(3)) , p(3)): done at 6", was+" (p(3) :- true)")
	wantAskAfter(t, p, "p(X), assertz(p(X))", "(p(1) , assertz(p(1))) (p(2) , assertz(p(2))): done at 6", was+" (p(1) :- true) (p(2) :- true)")
	wantAskAfter(t, p, "(assertz(p(3)), fail ; p(X))", "((assertz(p(3)) , fail) ; p(1)) ((assertz(p(3)) , fail) ; p(2)) ((assertz(p(3)) , fail) ; p(3)): done at 8", was+" (p(3) :- true)")
	wantAskAfter(t, p, "assertz((s(X) :- p(X), X = 2)), s(Z)", "(assertz((s(_0) :- (p(_0) , (_0 = 2)))) , s(2)): done at 9", was+" (s(_0) :- (p(_0) , (_0 = 2)))")
	wantAskAfter(t, p, "assertz(s(X, Y, X)), s(A, B, C), X = 1", "(assertz(s(1,_1,1)) , (s(_2,_3,_2) , (1 = 1))): done at 6", was+" (s(_0,_1,_0) :- true)")
	wantAskAfter(t, p, "X = f(Y, Z), assertz(s(Z, X, Y))", "((f(_1,_2) = f(_1,_2)) , assertz(s(_2,f(_1,_2),_1))): done at 3", was+" (s(_0,f(_1,_0),_1) :- true)")
	wantAskAfter(t, p, "assertz((s(X) :- Y)), X = 1", "(assertz((s(1) :- _1)) , (1 = 1)): done at 3", was+" (s(_0) :- call(_1))")
	wantAskAfter(t, p, "X = (r :- Y, Z), Z = p(W), assertz(X)", "(((r :- (_1 , p(_3))) = (r :- (_1 , p(_3)))) , ((p(_3) = p(_3)) , assertz((r :- (_1 , p(_3)))))): done at 5", was+" (r :- (_0 , p(_1)))")
	wantAskAfter(t, p, "assertz((p(X) :- write(X), fail)), p(7)", ": done at 6, wrote 7", was+" (p(_0) :- (write(_0) , fail))")
	wantAskAfter(t, p, "assertz((a :- 3)), a", ": ball error(type,'call/1') at 4", was+" (a :- 3)")
	wantAskAfter(t, p, "catch(assertz((a, b)), E, assertz(e(E)))", "catch(assertz((a , b)),error(type,'assertz/1'),assertz(e(error(type,'assertz/1')))): done at 3", was+" (e(error(type,'assertz/1')) :- true)")
	d := impl.Ask(readClauses(t, p, "f"), readOne(t, "assertz((q :- p(X)))"), 9).Db
	if files := []string{d.Clauses[0].File, d.Clauses[1].File, d.Clauses[2].File}; !slices.Equal(files, []string{"f", "f", ""}) {
		t.Errorf("the clauses are of %q", files)
	}
}

func TestAskTakesClausesOut(t *testing.T) {
	p := "p(1). q(a). p(2). q(X) :- p(X), write(X). p(1)."
	wantAskAfter(t, p, "retract(p(1))", "retract(p(1)): done at 1", "(q(a) :- true) (p(2) :- true) (q(_0) :- (p(_0) , write(_0))) (p(1) :- true)")
	wantAskAfter(t, p, "retract(p(X))", "retract(p(1)): done at 1", "(q(a) :- true) (p(2) :- true) (q(_0) :- (p(_0) , write(_0))) (p(1) :- true)")
	wantAskAfter(t, p, "retract(p(2)), p(X)", "(retract(p(2)) , p(1)) (retract(p(2)) , p(1)): done at 5", "(p(1) :- true) (q(a) :- true) (q(_0) :- (p(_0) , write(_0))) (p(1) :- true)")
	wantAskAfter(t, p, "retract(p(3))", ": done at 1", "(p(1) :- true) (q(a) :- true) (p(2) :- true) (q(_0) :- (p(_0) , write(_0))) (p(1) :- true)")
	// A fact is `:-` of it and `true`.
	wantAskAfter(t, p, "retract(q(b))", ": done at 1", "(p(1) :- true) (q(a) :- true) (p(2) :- true) (q(_0) :- (p(_0) , write(_0))) (p(1) :- true)")
	wantAskAfter(t, p, "retract((q(Y) :- true))", "retract((q(a) :- true)): done at 1", "(p(1) :- true) (p(2) :- true) (q(_0) :- (p(_0) , write(_0))) (p(1) :- true)")
	wantAskAfter(t, p, "retract((q(b) :- B))", "retract((q(b) :- (p(b) , write(b)))): done at 1", "(p(1) :- true) (q(a) :- true) (p(2) :- true) (p(1) :- true)")
	wantAskAfter(t, p, "retract((q(Y) :- B, C))", "retract((q(_0) :- (p(_0) , write(_0)))): done at 1", "(p(1) :- true) (q(a) :- true) (p(2) :- true) (p(1) :- true)")
	wantAskAfter(t, p, "retract((q(Y) :- p(Z), write(2)))", "retract((q(2) :- (p(2) , write(2)))): done at 1", "(p(1) :- true) (q(a) :- true) (p(2) :- true) (p(1) :- true)")
	wantAskAfter(t, p, "X = (q(b) :- Y), retract(X), Y", ": done at 6", "(p(1) :- true) (q(a) :- true) (p(2) :- true) (p(1) :- true)")
	wantAskAfter(t, p, "H = p(2), retract((H :- B)), call(B)", "((p(2) = p(2)) , (retract((p(2) :- true)) , call(true))): done at 6", "(p(1) :- true) (q(a) :- true) (q(_0) :- (p(_0) , write(_0))) (p(1) :- true)")
	wantAskAfter(t, "p.", "retract(p), retract(p)", ": done at 3", "")
	wantAskAfter(t, "p.", "retract(true) ; retract((a, b)) ; retract((:- a)) ; retract(none(X))", ": done at 7", "(p :- true)")
	wantAskAfter(t, "p(X, Y, X).", "retract(p(A, B, C))", "retract(p(_0,_1,_0)): done at 1", "")
	wantAskAfter(t, "p(X, Y, X).", "retract(p(a, B, b))", ": done at 1", "(p(_0,_1,_0) :- true)")
}

// Those that there are when a predicate is called are gone through, whatever comes and goes meanwhile.
func TestAskGoesThroughTheClausesOfTheCall(t *testing.T) {
	p := "p(1). p(2). q(z)."
	was := "(p(1) :- true) (p(2) :- true) (q(z) :- true)"
	wantAskAfter(t, p, "p(X), assertz(p(3))", "(p(1) , assertz(p(3))) (p(2) , assertz(p(3))): done at 6", was+" (p(3) :- true) (p(3) :- true)")
	wantAskAfter(t, p, "p(X), assertz(q(X)), fail ; q(Y)", "((p(_0) , (assertz(q(_0)) , fail)) ; q(z)) ((p(_0) , (assertz(q(_0)) , fail)) ; q(1)) ((p(_0) , (assertz(q(_0)) , fail)) ; q(2)): done at 15", was+" (q(1) :- true) (q(2) :- true)")
	wantAskAfter(t, p, "p(X), retract(p(Y))", "(p(1) , retract(p(1))) (p(2) , retract(p(2))): done at 6", "(q(z) :- true)")
	wantAskAfter(t, p, "p(X), retract(p(2))", "(p(1) , retract(p(2))): done at 6", "(p(1) :- true) (q(z) :- true)")
	wantAskAfter(t, p, "retract(p(1)), p(X)", "(retract(p(1)) , p(2)): done at 4", "(p(2) :- true) (q(z) :- true)")
	wantAskAfter(t, p, "retract(p(X)), fail ; p(Y)", "((retract(p(_0)) , fail) ; p(2)): done at 6", "(p(2) :- true) (q(z) :- true)")
	wantAskAfter(t, p, "retract(q(X)), fail ; q(Y)", ": ball error(unknown,'q/1') at 5", "(p(1) :- true) (p(2) :- true)")
	wantAskAfter(t, p, "retract(p(_)), retract(p(_)), p(X)", ": ball error(unknown,'p/1') at 5", "(q(z) :- true)")
	wantAskAfter(t, p, "p(X), retract(p(X)), assertz(p(X)), fail", ": done at 14", "(q(z) :- true) (p(1) :- true) (p(2) :- true)")
	wantAskAfter(t, p+" g :- p(X), Y is X + 2, assertz(p(Y)), fail. g.", "g, p(X)", "(g , p(1)) (g , p(2)) (g , p(3)) (g , p(4)): done at 22", was+" (g :- (p(_0) , ((_1 is (_0 + 2)) , (assertz(p(_1)) , fail)))) (g :- true) (p(3) :- true) (p(4) :- true)")
	wantAskAfter(t, p+" w :- retract(p(_)), w. w.", "w, \\+ p(X)", ": ball error(unknown,'p/1') at 13", "(q(z) :- true) (w :- (retract(p(_0)) , w)) (w :- true)")
	// A clause that takes itself out goes on.
	wantAskAfter(t, "once :- retract((once :- B)), write(w). once :- write(v).", "once, once", "(once , once) (once , once): done at 10, wrote wvvv", "(once :- write(v))")
}

// All that was written is Out, whatever comes of it.
func TestAskTellsAllThatWasWritten(t *testing.T) {
	p := "p(1). p(2). p(3)."
	wantAsk(t, p, "p(X), write(X), fail", ": done at 14, wrote 123")
	wantAsk(t, p, "p(X), write(f(X, Y)), X = 2", "(p(2) , (write(f(2,_1)) , (2 = 2))): done at 14, wrote f(1,_1)f(2,_1)f(3,_1)")
}

// programs are some with goals for them: what fails, what has answers, what writes, throws, changes clauses, and does not end.
func programs() [][2]string {
	return [][2]string{
		{"p(1). p(2). p(3).", "p(X), write(X), 1 < X"},
		{listsProgram(), "perm([a, b, c], X)"},
		{listsProgram(), "rev([a, b], X), mem(Y, X)"},
		{listsProgram(), "mem(X, Y)"},
		{cutsProgram(), "c6(X), write(X), (c9(Y) -> d4(Z) ; fail)"},
		{catchProgram(), "catch(deep(3), B, (write(B), rec(X)))"},
		{catchProgram(), "k(b)"},
		{catchProgram(), "catch(n(X), E, (write(E), throw(out)))"},
		{"p(1). p(2).", "p(X), assertz(p(X)), retract(p(Y)), write(X - Y)"},
		{"p.", "none"}, {"p.", "fail"}, {"p.", "true"}, {"p.", "write(a)"}, {"p.", "catch(none, E, write(E))"},
		{"l :- write(x), l.", "l"},
		{"l :- l. l :- write(x).", "l"},
		{"n(z). n(s(N)) :- n(N).", `\+ \+ n(X), n(Y)`},
		{"v(X) :- v(Y).", "v(X)"},
	}
}

func isPrefixOf(a, b impl.Outcome) bool {
	return len(a.Answers) <= len(b.Answers) && slices.EqualFunc(a.Answers, b.Answers[:len(a.Answers)], equalTerms) && strings.HasPrefix(b.Out, a.Out)
}

// With just as many steps as are taken all is told; with one fewer it stops, and what was told up to there is told.
func TestAskTakesNoMoreSteps(t *testing.T) {
	for _, one := range programs() {
		d, goal := readClauses(t, one[0], "f"), readOne(t, one[1])
		whole := wantAskByRule(t, d, goal, impl.MaxSteps)
		some := []int{-1 << 62, -2000, -1, 0, 1, 2, 3, 5, 7, 10, 100, 1999}
		for s := max(0, min(whole.Steps, 100)-30); s < min(whole.Steps, 100); s++ {
			some = append(some, s)
		}
		for _, steps := range append(some, whole.Steps-1) {
			o := impl.Ask(d, goal, steps)
			if steps >= whole.Steps {
				if !equalOutcomes(o, whole) {
					t.Fatalf("%s within %d: told %s; want %s", one[1], steps, toldOf(o), toldOf(whole))
				}
				continue
			}
			if o.End != impl.EnStop || o.Steps != max(0, steps) || !isPrefixOf(o, whole) || o.Ball.Kind != 0 {
				t.Fatalf("%s within %d: told %s; the whole is %s", one[1], steps, toldOf(o), toldOf(whole))
			}
		}
		for _, steps := range []int{whole.Steps, whole.Steps + 1, 2000, 2001, 5000, 1 << 40, 1<<63 - 1} {
			if o := impl.Ask(d, goal, steps); !equalOutcomes(o, whole) {
				t.Fatalf("%s within %d: told %s; want %s", one[1], steps, toldOf(o), toldOf(whole))
			}
		}
	}
}

func TestAskTakesAtMostMaxSteps(t *testing.T) {
	// Five for each number, and four at the end.
	p := "d(0). d(N) :- 0 < N, M is N - 1, d(M)."
	wantAsk(t, p, "d(399)", "d(399): done at 1999")
	wantAsk(t, p, "call(d(399))", "call(d(399)): done at 2000")
	wantAsk(t, p, "call(call(d(399)))", "call(call(d(399))): stop at 2000")
	wantAsk(t, p, "call(call(call(d(399))))", "call(call(call(d(399)))): stop at 2000")
	wantAsk(t, p, "d(400)", ": stop at 2000")
	wantAskWithin(t, p, "d(399)", 1999, "d(399): done at 1999")
	wantAskWithin(t, p, "d(399)", 1998, "d(399): stop at 1998")
	for _, steps := range []int{2000, 2001, 1 << 30, 1<<63 - 1} {
		wantAskWithin(t, "l :- l.", "l", steps, ": stop at 2000")
		wantAskWithin(t, "", "true", steps, "true: done at 1")
	}
	for _, steps := range []int{0, -1, -2000, -1 << 63} {
		wantAskWithin(t, "", "true", steps, ": stop at 0")
		wantAskWithin(t, "", "throw(a)", steps, ": stop at 0")
	}
	wantAskWithin(t, "", "true", 1, "true: done at 1")
	wantAskWithin(t, "", "throw(a)", 1, ": ball a at 1")
	wantAskWithin(t, "", "write(a)", 1, "write(a): done at 1, wrote a")
}

// What is done without a step is done where no step is left.
func TestAskNeedsNoStepForTheEndOfAConditionOrACatch(t *testing.T) {
	wantAskWithin(t, "p(1). p(2).", "p(X)", 3, "p(1) p(2): done at 3")
	wantAskWithin(t, "", "catch(true, a, fail)", 2, "catch(true,a,fail): done at 2")
	wantAskWithin(t, "", "true -> true", 3, "(true -> true): done at 3")
	wantAskWithin(t, "p(1). p(2).", "p(X) -> true", 4, "(p(1) -> true): done at 4")
	wantAskWithin(t, "p(1). p(2).", "p(X) -> true", 3, ": stop at 3")
	wantAskWithin(t, "p(1). p(2). p(3) :- fail.", "catch(p(X), a, fail)", 5, "catch(p(1),a,fail) catch(p(2),a,fail): done at 5")
	wantAskWithin(t, "p(1). p(2). p(3) :- fail.", "catch(p(X), a, fail)", 4, "catch(p(1),a,fail) catch(p(2),a,fail): stop at 4")
}

// wantTold asks for terms, and of clauses that are not read.
func wantTold(t *testing.T, d impl.Db, goal impl.Term, want string) impl.Outcome {
	t.Helper()
	o := wantAskByRule(t, d, goal, 2000)
	if told := toldOf(o); told != want {
		t.Errorf("%.200s: told %.300q; want %.300q", impl.WriteTerm(goal), told, want)
	}
	return o
}

// clausesOf has these terms, as they are, as its clauses.
func clausesOf(t *testing.T, terms ...impl.Term) impl.Db {
	t.Helper()
	var d impl.Db
	for _, term := range terms {
		c, told := impl.ClauseOf(term, "")
		with, added := impl.Added(d, c)
		if !told || !added {
			t.Fatalf("%s is no clause", shown(term))
		}
		d = with
	}
	return d
}

func pOf(kids ...impl.Term) impl.Term { return structTerm("p", kids...) }

func TestAskUsesAtMostMaxVars(t *testing.T) {
	a := atomTerm("a")
	fact := clausesOf(t, pOf(a))
	wantTold(t, fact, pOf(varTerm(2998)), "p(a): done at 2")
	wantTold(t, fact, pOf(varTerm(2999)), "p(a): done at 2")
	wantTold(t, fact, pOf(varTerm(3000)), ": stop at 0")
	wantTold(t, fact, pOf(varTerm(99999)), ": stop at 0")
	wantTold(t, fact, structTerm("write", varTerm(3000)), ": stop at 0")
	wantTold(t, fact, varTerm(3000), ": stop at 0")
	wantTold(t, clausesOf(t, pOf(varTerm(2999))), pOf(a), "p(a): done at 2")
	wantTold(t, clausesOf(t, pOf(varTerm(3000))), pOf(a), ": stop at 1")
	wantTold(t, clausesOf(t, pOf(varTerm(2998))), pOf(varTerm(0)), "p(_0): done at 2")
	wantTold(t, clausesOf(t, pOf(varTerm(2999))), pOf(varTerm(0)), ": stop at 1")
	wantTold(t, clausesOf(t, pOf(varTerm(1499))), pOf(varTerm(1499)), "p(_1499): done at 2")
	wantTold(t, clausesOf(t, pOf(varTerm(1499))), pOf(varTerm(1500)), ": stop at 1")
	wantTold(t, clausesOf(t, pOf(varTerm(1500))), pOf(varTerm(1499)), ": stop at 1")
	// Of the body alone.
	q := structTerm("q", varTerm(2999))
	wantTold(t, clausesOf(t, ifTerm(pOf(a), q), structTerm("q", a)), pOf(a), "p(a): done at 3")
	wantTold(t, clausesOf(t, ifTerm(pOf(a), q), structTerm("q", varTerm(0))), pOf(a), ": stop at 2")
	wantTold(t, clausesOf(t, ifTerm(pOf(varTerm(0)), structTerm("q", varTerm(3000))), structTerm("q", a)), pOf(a), ": stop at 1")
	// Two for each call.
	wantAsk(t, "v(X) :- v(Y).", "v(a)", ": stop at 1501")
	wantAsk(t, "v(X) :- v(Y).", "v(X)", ": stop at 1500")
	wantAsk(t, "v(X) :- v(a).", "v(X)", ": stop at 2000")
	wantAsk(t, "v(X, Y, Z) :- v(Z, X, Y).", "v(a, b, c)", ": stop at 1001")
}

func TestAskUsesNoVarsOfWhatCannotBeUnified(t *testing.T) {
	a, b, c := atomTerm("a"), atomTerm("b"), atomTerm("c")
	for _, great := range []int{2998, 2999, 3000, 4999, 5000, 50000, 97000, 99998, 99999} {
		d := clausesOf(t, pOf(a, varTerm(great)), pOf(b, c), ifTerm(pOf(c, structTerm("f", varTerm(great))), varTerm(great)))
		wantTold(t, d, pOf(b, varTerm(0)), "p(b,c): done at 2")
		wantTold(t, d, pOf(c, b), ": done at 1")
		wantTold(t, d, pOf(c, structTerm("g", varTerm(0))), ": done at 1")
		if great > 2999 {
			wantTold(t, d, pOf(a, varTerm(0)), ": stop at 1")
			wantTold(t, d, pOf(a, b), ": stop at 1")
			wantTold(t, d, pOf(c, varTerm(7)), ": stop at 1")
			wantTold(t, d, pOf(varTerm(0), b), ": stop at 1")
		}
	}
	// Those of a clause are its own ones, however great they are, and whatever the goal has.
	x, great := varTerm(0), varTerm(99999)
	wantTold(t, clausesOf(t, pOf(x, great)), pOf(structTerm("f", x), a), ": stop at 1")
	wantTold(t, clausesOf(t, pOf(x, structTerm("f", x), great)), pOf(x, x, a), ": done at 1")
	wantTold(t, clausesOf(t, pOf(a, x, great)), pOf(x, b, x), ": stop at 1")
	wantTold(t, clausesOf(t, pOf(great, great)), pOf(a, b), ": done at 1")
	wantTold(t, clausesOf(t, pOf(great, great)), pOf(a, a), ": stop at 1")
	wantTold(t, clausesOf(t, pOf(great, varTerm(99998))), pOf(a, b), ": stop at 1")
	wantTold(t, clausesOf(t, pOf(great), pOf(a)), pOf(varTerm(2)), ": stop at 1")
	wantTold(t, clausesOf(t, pOf(a), pOf(great)), pOf(varTerm(2)), "p(a): stop at 2")
}

// Who goes back uses as many as there were then.
func TestAskUsesVarsAnewBehindAPlace(t *testing.T) {
	d := clausesOf(t, structTerm("u", varTerm(1499)), structTerm("s", varTerm(0)), structTerm("k", atomTerm("a")))
	for goal, want := range map[string]string{
		"u(a), u(b)":                               "(u(a) , u(b)): done at 5",
		"u(a), u(b), k(a)":                         "(u(a) , (u(b) , k(a))): done at 8",
		"u(a), u(b), s(c)":                         ": stop at 7",
		"u(a), u(b), k(b)":                         ": done at 7",
		"u(a), u(b), fail ; u(c), u(d)":            "((u(a) , (u(b) , fail)) ; (u(c) , u(d))): done at 13",
		"\\+ (u(a), fail), u(b), u(c)":             "(\\+((u(a) , fail)) , (u(b) , u(c))): done at 12",
		"(u(a) -> u(b) ; true), s(c)":              ": stop at 7",
		"(u(a), fail -> true ; u(b)), u(c)":        "((((u(a) , fail) -> true) ; u(b)) , u(c)): done at 10",
		"catch((u(a), u(b), throw(x)), x, u(c))":   "catch((u(a) , (u(b) , throw(x))),x,u(c)): done at 10",
		"catch((u(a), u(b)), x, true), s(c)":       ": stop at 8",
		"call((u(a), !)), u(b)":                    "(call((u(a) , !)) , u(b)): done at 8",
		"u(a), (u(b), fail ; u(c), fail ; u(d))":   "(u(a) , ((u(b) , fail) ; ((u(c) , fail) ; u(d)))): done at 15",
		"u(a), catch((u(b), throw(x)), x, u(c))":   "(u(a) , catch((u(b) , throw(x)),x,u(c))): done at 10",
		"u(a), u(b), retract(s(c))":                ": stop at 7",
		"u(a), u(b), retract(k(c))":                ": done at 7",
		"u(a), u(b), retract(k(a))":                "(u(a) , (u(b) , retract(k(a)))): done at 7",
		"u(a), u(b), assertz(s(c)), assertz(k(b))": "(u(a) , (u(b) , (assertz(s(c)) , assertz(k(b))))): done at 9",
		"u(a), u(b), catch(throw(x), x, true)":     "(u(a) , (u(b) , catch(throw(x),x,true))): done at 9",
		"u(a), u(b), catch(none, x, true)":         ": ball error(unknown,'none/0') at 8",
	} {
		wantTold(t, d, readOne(t, goal), want)
	}
}

func TestAskUsesVarsForBalls(t *testing.T) {
	a, x := atomTerm("a"), varTerm(0)
	caught := func(ball, by impl.Term) impl.Term {
		return structTerm("catch", structTerm("throw", ball), by, atomTerm("true"))
	}
	f := func(kids ...impl.Term) impl.Term { return structTerm("f", kids...) }
	wantTold(t, impl.Db{}, caught(varTerm(2998), x), "catch(throw(_2998),_0,true): done at 3")
	wantTold(t, impl.Db{}, caught(varTerm(2999), x), ": stop at 2")
	wantTold(t, impl.Db{}, caught(f(varTerm(2998), varTerm(2998)), x), "catch(throw(f(_2998,_2998)),f(_2999,_2999),true): done at 3")
	wantTold(t, impl.Db{}, caught(f(varTerm(2998), varTerm(1)), x), ": stop at 2")
	wantTold(t, impl.Db{}, caught(f(varTerm(2997), varTerm(1)), x), "catch(throw(f(_2997,_1)),f(_2998,_2999),true): done at 3")
	wantTold(t, impl.Db{}, caught(f(a, varTerm(2999)), f(a, a)), ": stop at 2")
	wantTold(t, impl.Db{}, caught(f(a), varTerm(2999)), "catch(throw(f(a)),f(a),true): done at 3")
	// Not so many are used, when it is not caught.
	wantTold(t, impl.Db{}, caught(f(varTerm(2999)), a), ": ball f(_2999) at 2")
	wantTold(t, impl.Db{}, caught(f(a, varTerm(2999)), f(x, f(x))), ": stop at 2")
	wantTold(t, impl.Db{}, caught(f(a, varTerm(2999), varTerm(2999)), f(x, f(x), x)), ": ball f(a,_2999,_2999) at 2")
	wantTold(t, impl.Db{}, structTerm("catch", caught(f(varTerm(2999)), a), f(a), atomTerm("true")), ": stop at 3")
	wantTold(t, impl.Db{}, structTerm("catch", caught(f(varTerm(2998)), a), f(a), atomTerm("true")), "catch(catch(throw(f(_2998)),a,true),f(a),true): done at 4")
	// Those that were used within the catch are not used any more.
	d := clausesOf(t, ifTerm(structTerm("w", varTerm(1)), structTerm("throw", f(varTerm(1), varTerm(2999)))))
	wantTold(t, d, structTerm("catch", structTerm("w", a), x, structTerm("write", x)), ": stop at 2")
	d = clausesOf(t, ifTerm(structTerm("w", varTerm(1)), structTerm("throw", f(varTerm(1), varTerm(2998)))))
	wantTold(t, d, structTerm("catch", structTerm("w", a), x, structTerm("write", x)), "catch(w(a),f(a,_1),write(f(a,_1))): done at 4, wrote f(a,_1)")
	wantTold(t, d, structTerm("catch", structTerm("w", x), x, structTerm("write", x)), "catch(w(f(_1,_2)),f(_1,_2),write(f(_1,_2))): done at 4, wrote f(_1,_2)")
}

func TestAskUsesVarsForWhatIsTakenOut(t *testing.T) {
	a, b := atomTerm("a"), atomTerm("b")
	r := func(kids ...impl.Term) impl.Term { return structTerm("r", kids...) }
	retract := func(t impl.Term) impl.Term { return structTerm("retract", t) }
	stays := func(d impl.Db, goal impl.Term, want string) {
		t.Helper()
		if o := wantTold(t, d, goal, want); !equalDbs(o.Db, d) {
			t.Errorf("%s: the clauses at the end are %s", impl.WriteTerm(goal), programText(o.Db))
		}
	}
	goes := func(d impl.Db, goal impl.Term, want string) {
		t.Helper()
		if o := wantTold(t, d, goal, want); len(o.Db.Clauses) != len(d.Clauses)-1 {
			t.Errorf("%s: the clauses at the end are %s", impl.WriteTerm(goal), programText(o.Db))
		}
	}
	goes(clausesOf(t, r(varTerm(2999))), retract(r(a)), "retract(r(a)): done at 1")
	stays(clausesOf(t, r(varTerm(3000))), retract(r(a)), ": stop at 1")
	goes(clausesOf(t, r(varTerm(2998))), retract(r(varTerm(0))), "retract(r(_0)): done at 1")
	stays(clausesOf(t, r(varTerm(2999))), retract(r(varTerm(0))), ": stop at 1")
	stays(clausesOf(t, r(varTerm(99999))), retract(r(varTerm(0))), ": stop at 1")
	stays(clausesOf(t, r(b), r(varTerm(99999)), r(a)), retract(r(a)), ": stop at 1")
	goes(clausesOf(t, r(a), r(varTerm(99999))), retract(r(a)), "retract(r(a)): done at 1")
	// Of the body, too.
	for _, great := range []int{3000, 5000, 99999} {
		rule := ifTerm(r(varTerm(0)), structTerm("q", varTerm(great)))
		stays(clausesOf(t, rule), retract(ifTerm(r(a), structTerm("q", b))), ": stop at 1")
		stays(clausesOf(t, rule), retract(ifTerm(r(a), varTerm(0))), ": stop at 1")
		goes(clausesOf(t, rule, r(a)), retract(r(a)), "retract(r(a)): done at 1")
		stays(clausesOf(t, r(b, varTerm(great))), retract(r(a, a)), ": done at 1")
		stays(clausesOf(t, r(varTerm(great), varTerm(great))), retract(r(a, b)), ": done at 1")
	}
	goes(clausesOf(t, ifTerm(r(varTerm(0)), structTerm("q", varTerm(2999)))), retract(ifTerm(r(a), structTerm("q", b))), "retract((r(a) :- q(b))): done at 1")
	// What was used for it is used behind it.
	wantTold(t, clausesOf(t, r(varTerm(1499)), structTerm("s", varTerm(1499)), structTerm("k", varTerm(0))), readOne(t, "retract(r(a)), s(a)"), "(retract(r(a)) , s(a)): done at 4")
	wantTold(t, clausesOf(t, r(varTerm(1499)), structTerm("s", varTerm(1499)), structTerm("k", varTerm(0))), readOne(t, "retract(r(a)), s(a), k(a)"), ": stop at 6")
}

// aRow writes so many times twenty bytes, one behind the other.
func aRow() string {
	return "w(0) :- !. w(N) :- write(aaaaaaaaaaaaaaaaaaaa), M is N - 1, w(M)."
}

func TestAskWritesAtMostMaxOut(t *testing.T) {
	// Five steps for each, and two at the end.
	whole := strings.Repeat("a", 2000)
	wantAsk(t, aRow(), "w(100)", "w(100): done at 502, wrote "+whole)
	wantAsk(t, aRow(), "w(100), write(b)", ": stop at 504, wrote "+whole)
	wantAsk(t, aRow(), "w(101)", ": stop at 503, wrote "+whole)
	wantAsk(t, aRow(), "w(99), write(aaaaaaaaaaaaaaaaaaa), write(b)", "(w(99) , (write(aaaaaaaaaaaaaaaaaaa) , write(b))): done at 501, wrote "+whole[1:]+"b")
	wantAsk(t, aRow(), "w(99), write(aaaaaaaaaaaaaaaaaaa), write(b), write(c)", ": stop at 503, wrote "+whole[1:]+"b")
	// What is too long is not written, not even in part.
	wantAsk(t, aRow(), "w(99), write(aaaaaaaaaaaaaaaaaaa), write(bc)", ": stop at 501, wrote "+whole[1:])
	wantAsk(t, aRow(), "w(100), true", "(w(100) , true): done at 504, wrote "+whole)
	// What was written stays behind who goes back.
	wantAsk(t, aRow(), "w(50), fail ; w(50)", "((w(50) , fail) ; w(50)): done at 507, wrote "+whole)
	wantAsk(t, aRow(), "w(50), fail ; w(50), write(z)", ": stop at 509, wrote "+whole)
	wantAsk(t, aRow(), "catch((w(50), throw(x)), x, (w(50) ; write(z)))", "catch((w(50) , throw(x)),x,(w(50) ; write(z))): stop at 509, wrote "+whole)
}

// writtenOf is a right term of 300 terms whose text has so many bytes.
func writtenOf(t *testing.T, bytes int) impl.Term {
	t.Helper()
	term := wideTerm(300, atomTerm("a"))
	left := bytes - len(writeByRule(term))
	term = lengthened(term, &left)
	if got := len(impl.WriteTerm(term)); got != bytes || !impl.TermOk(term) {
		t.Fatalf("a text of %d bytes; want %d", got, bytes)
	}
	return term
}

func TestAskWritesLongTerms(t *testing.T) {
	for _, bytes := range []int{1998, 1999, 2000, 2001, 2002, 4000} {
		term := writtenOf(t, bytes)
		text := impl.WriteTerm(term)
		write := structTerm("write", term)
		want := fmt.Sprintf("write(%s): done at 1, wrote %s", text, text)
		if bytes > 2000 {
			want = ": stop at 1"
		}
		wantTold(t, impl.Db{}, write, want)
		want = ": stop at 3, wrote a"
		if bytes < 2000 {
			want = fmt.Sprintf("(write(a) , write(%s)): done at 3, wrote a%s", text, text)
		}
		wantTold(t, impl.Db{}, andTerm(structTerm("write", atomTerm("a")), write), want)
	}
}

// growing is a fact of so many terms in all that TmVars stand for, and of as few as may be in one another.
func growing(t *testing.T, sizes ...int) impl.Db {
	t.Helper()
	var facts []impl.Term
	for i, size := range sizes {
		facts = append(facts, structTerm(fmt.Sprintf("s%d", i), wideTerm(size, atomTerm("a"))))
	}
	return clausesOf(t, facts...)
}

// Each of answers, balls, what is written and what is added, of 400 terms and of one more.
func TestAskStopsAtWhatIsTooLarge(t *testing.T) {
	x, y := varTerm(0), varTerm(1)
	both := andTerm(structTerm("s0", x), structTerm("s1", y))
	inner := structTerm("f", x, y)
	for more := range 3 {
		// Of inner 399, 400 and 401 are made, and of both four more.
		d := growing(t, 199, 199+more)
		small := growing(t, 198, 198+more)
		o := wantAskByRule(t, small, both, 100)
		if ok := len(o.Answers) == 1 && o.End == impl.EnDone; ok != (more < 2) || !ok && (o.End != impl.EnStop || o.Steps != 5) {
			t.Errorf("an answer of %d: told %.200s", 399+more, toldOf(o))
		}
		for _, last := range []impl.Term{structTerm("write", inner), structTerm("assertz", inner), structTerm("throw", inner)} {
			goal := notTerm(notTerm(andTerm(both, last)))
			o := wantAskByRule(t, d, goal, 100)
			stopped := o.End == impl.EnStop && o.Steps == 9 && o.Out == "" && equalDbs(o.Db, d) && o.Ball.Kind == 0
			if stopped != (more == 2) {
				t.Errorf("%s of %d: told %.300s", last.Name, 399+more, toldOf(o))
			}
		}
	}
}

func TestAskStopsAtWhatIsTooDeep(t *testing.T) {
	x := varTerm(0)
	for deep := 37; deep <= 40; deep++ {
		d := clausesOf(t, ifTerm(structTerm("c", x, varTerm(1)), sameAs(varTerm(1), chainTerm(deep-20, x))))
		begin := structTerm("c", chainTerm(21, atomTerm("a")), varTerm(1))
		// TmVar 1 stands for a term so deep, and the answer is one deeper.
		for _, c := range []struct {
			last impl.Term
			more int
		}{
			{structTerm("write", varTerm(1)), 0}, {structTerm("write", structTerm("f", varTerm(1))), 1}, {structTerm("write", listTerm(varTerm(1), varTerm(1))), 2},
			{structTerm("throw", varTerm(1)), 0}, {structTerm("throw", structTerm("f", varTerm(1))), 1}, {structTerm("throw", notTerm(notTerm(varTerm(1)))), 2},
			{structTerm("assertz", structTerm("f", varTerm(1))), 1}, {structTerm("assertz", ifTerm(atomTerm("f"), structTerm("f", varTerm(1)))), 2},
		} {
			goal := notTerm(andTerm(begin, c.last))
			o := wantAskByRule(t, d, goal, 100)
			if stopped := o.End == impl.EnStop && o.Steps == 5 && len(o.Db.Clauses) == 1; stopped != (deep+c.more > 40) {
				t.Errorf("%s of %d: told %.300s", c.last.Name, deep+c.more, toldOf(o))
			}
		}
		o := wantAskByRule(t, d, begin, 100)
		if answered := len(o.Answers) == 1 && o.End == impl.EnDone; answered != (deep+1 <= 40) || !answered && o.End != impl.EnStop {
			t.Errorf("an answer of %d: told %.300s", deep+1, toldOf(o))
		}
	}
}

// twice has TmVar 0 stand for f of two TmVar 1, that one for f of two TmVar 2, and so on, and the last one for a.
func twice(many, first int) impl.Term {
	goal := sameAs(varTerm(first+many), atomTerm("a"))
	for i := many - 1; i >= 0; i-- {
		goal = andTerm(sameAs(varTerm(first+i), structTerm("f", varTerm(first+i+1), varTerm(first+i+1))), goal)
	}
	return goal
}

// What grows behind a TmVar that stands for something already is looked at where it is told.
func TestAskOfWhatGrowsBehindNames(t *testing.T) {
	big := ifTerm(structTerm("big", varTerm(0)), twice(8, 0))
	d := clausesOf(t, big, ifTerm(structTerm("less", varTerm(0)), twice(7, 0)))
	for goal, want := range map[string]string{
		"big(X)": ": stop at 18", "big(X), fail": ": done at 20", `\+ \+ big(X)`: `\+(\+(big(_0))): done at 22`, `\+ (big(X), throw(X))`: ": stop at 21", `\+ (big(X), write(X))`: ": stop at 21", `\+ (big(X), assertz(q(X)))`: ": stop at 21",
		`\+ (big(X), X == X)`: `\+((big(_0) , (_0 == _0))): done at 22`, `\+ (big(X), a == X)`: `\+((big(_0) , (a == _0))): done at 22`, `\+ (big(X), X == a)`: `\+((big(_0) , (_0 == a))): done at 22`, `\+ (big(X), X = Y)`: `\+((big(_0) , (_0 = _1))): done at 22`, `\+ (big(X), Y = f(X))`: `\+((big(_0) , (_1 = f(_0)))): done at 22`,
		`\+ (big(X), X = a)`: `\+((big(_0) , (_0 = a))): done at 22`, `\+ \+ (big(X), X = f(Y, Z))`: `\+(\+((big(_0) , (_0 = f(_1,_2))))): done at 24`, `\+ \+ (big(X), X \= Y)`: `\+(\+((big(_0) , (_0 \= _1)))): done at 24`,
		`\+ (big(X), var(X))`: `\+((big(_0) , var(_0))): done at 22`, `\+ (big(X), atom(X))`: `\+((big(_0) , atom(_0))): done at 22`, `\+ \+ (big(X), big(Y), X = Y)`: `\+(\+((big(_0) , (big(_1) , (_0 = _1))))): done at 43`,
		`\+ (big(X), X)`: ": ball error(unknown,'f/2') at 21", `\+ (big(X), call(X))`: ": ball error(unknown,'f/2') at 22",
		`\+ (less(X), X = Y)`: ": done at 20", `\+ (less(X), throw(X))`: ": ball " + impl.WriteTerm(doubledTerm(7, atomTerm("a"))) + " at 19",
	} {
		wantTold(t, d, readOne(t, goal), want)
	}
}

// At most 2000 pairs are looked at, as in Unify.
func TestAskOfTermsThatAreTooManyPairs(t *testing.T) {
	for _, many := range []int{8, 9, 10, 11} {
		goal := andTerm(twice(many, 0), andTerm(twice(many, 100), sameAs(varTerm(0), varTerm(100))))
		o := wantAskByRule(t, impl.Db{}, notTerm(goal), 100)
		if same := len(o.Answers) == 0; same != (many < 10) || o.End != impl.EnDone {
			t.Errorf("of %d: told %.300s", many, toldOf(o))
		}
	}
}

// A goal that call makes may not be right: it can't be unified with a head then.
func TestAskOfGoalsThatAreNotRight(t *testing.T) {
	x := varTerm(0)
	head := structTerm("f", varTerm(0), varTerm(1))
	d := clausesOf(t, atomTerm("z"), head, structTerm("s", structTerm("f", wideTerm(299, atomTerm("a")))), structTerm("e", structTerm("=", wideTerm(250, atomTerm("a")))))
	for size := 97; size < 104; size++ {
		goal := notTerm(andTerm(structTerm("s", x), structTerm("call", x, wideTerm(size, atomTerm("a")))))
		o := wantAskByRule(t, d, goal, 100)
		if fits := len(o.Answers) == 0; fits != (size <= 100) || o.End != impl.EnDone {
			t.Errorf("a goal of %d: told %.300s", 300+size, toldOf(o))
		}
		open := impl.Db{Clauses: []impl.Clause{d.Clauses[2]}, Open: []string{"f/2"}}
		wantTold(t, open, andTerm(goal, atomTerm("fail")), ": done at 9")
		wantTold(t, impl.Db{Clauses: open.Clauses}, goal, ": ball error(unknown,'f/2') at 6")
	}
	// Of one that is done at once each Kid is right.
	goal := notTerm(andTerm(structTerm("e", x), structTerm("call", x, wideTerm(250, atomTerm("a")))))
	wantTold(t, d, goal, ": done at 7")
}

func TestAskWithoutRoomForAClause(t *testing.T) {
	full, almost := dbOf(120, 3), dbOf(119, 3)
	last := almost.Clauses[118]
	wantTold(t, full, readOne(t, "assertz(new)"), ": stop at 1")
	wantTold(t, full, readOne(t, "catch(assertz(new), E, true)"), ": stop at 2")
	wantTold(t, full, readOne(t, "assertz(3)"), ": ball error(type,'assertz/1') at 1")
	wantTold(t, full, readOne(t, "assertz(X)"), ": ball error(type,'assertz/1') at 1")
	wantTold(t, full, readOne(t, "retract(p(0)), assertz(new), new"), "(retract(p(0)) , (assertz(new) , new)): done at 6")
	wantTold(t, full, readOne(t, "retract(p(0)), assertz(new), assertz(new)"), ": stop at 5")
	wantTold(t, almost, readOne(t, "assertz(new), new"), "(assertz(new) , new): done at 4")
	wantTold(t, almost, readOne(t, "assertz(new), assertz(other)"), ": stop at 3")
	wantTold(t, impl.Db{}, readOne(t, "assertz((l :- assertz(p), l)), l"), ": stop at 362")
	for _, c := range []struct {
		goal string
		d    impl.Db
		many int
	}{{"assertz(new)", full, 120}, {"retract(p(0)), assertz(new), assertz(new)", full, 120}, {"assertz(new), assertz(other)", almost, 120}} {
		o := impl.Ask(c.d, readOne(t, c.goal), 100)
		if len(o.Db.Clauses) != c.many || !slices.Equal(o.Db.Open, c.d.Open) {
			t.Errorf("%s: at the end there are %s", c.goal, shownDb(o.Db))
		}
	}
	o := impl.Ask(almost, readOne(t, "assertz(new), assertz(other)"), 100)
	if !equalClause(o.Db.Clauses[118], last) || !equalTerms(o.Db.Clauses[119].Head, atomTerm("new")) {
		t.Errorf("at the end there are %s", shownDb(o.Db))
	}
}

// wantRefused is for what it stops at without a step.
func wantRefused(t *testing.T, d impl.Db, goal impl.Term, what string) {
	t.Helper()
	for _, steps := range []int{0, 2000} {
		o := impl.Ask(d, goal, steps)
		if o.End != impl.EnStop || o.Steps != 0 || len(o.Answers) != 0 || o.Out != "" || !equalTerms(o.Ball, impl.Term{}) || !sameDbs(o.Db, d) {
			t.Fatalf("%s within %d: told %d answers, end %d, ball %s, out %q, %d steps, %s", what, steps, len(o.Answers), o.End, shown(o.Ball), o.Out, o.Steps, shownDb(o.Db))
		}
	}
}

func TestAskOfGoalsThatMayNotBe(t *testing.T) {
	d := dbOf(7, 2)
	for i, goal := range slices.Concat(oddTerms(), deepOdds(), greatTerms()) {
		wantRefused(t, d, goal, fmt.Sprintf("goal %d", i))
		wantRefused(t, impl.Db{}, goal, fmt.Sprintf("goal %d of no clauses", i))
		if i < len(oddTerms()) {
			for _, within := range oddWithin(goal) {
				wantRefused(t, d, within, fmt.Sprintf("what has goal %d in it", i))
			}
			wantRefused(t, d, orTerm(atomTerm("true"), goal), fmt.Sprintf("what has goal %d behind it", i))
			wantRefused(t, d, structTerm("p", goal), fmt.Sprintf("p of goal %d", i))
		}
	}
	a := atomTerm("a")
	wantTold(t, impl.Db{}, notTerm(sameAs(varTerm(0), wideTerm(397, a))), ": done at 3")
	wantRefused(t, impl.Db{}, notTerm(sameAs(varTerm(0), wideTerm(398, a))), "a goal of 401 terms")
	wantTold(t, impl.Db{}, notTerm(sameAs(varTerm(0), chainTerm(38, a))), ": done at 3")
	wantRefused(t, impl.Db{}, notTerm(sameAs(varTerm(0), chainTerm(39, a))), "a goal that is 41 deep")
}

func TestAskOfClausesThatMayNotBe(t *testing.T) {
	so := atomTerm("true")
	for i, c := range faultyClauses() {
		if !small(c) {
			continue
		}
		d := dbOf(6, 2)
		d.Clauses = slices.Insert(d.Clauses, i%7, c)
		wantRefused(t, d, so, fmt.Sprintf("with faulty clause %d", i))
		wantRefused(t, impl.Db{Clauses: []impl.Clause{c}}, so, fmt.Sprintf("of faulty clause %d", i))
	}
	// Without the deepest one, which takes long to be copied so often.
	for i, great := range slices.Delete(greatTerms(), 2, 3) {
		wantRefused(t, impl.Db{Clauses: []impl.Clause{factOf("p", 1), {Head: great, Body: so}}}, so, fmt.Sprintf("of great head %d", i))
		wantRefused(t, impl.Db{Clauses: []impl.Clause{{Head: so, Body: great}}}, so, fmt.Sprintf("of great body %d", i))
	}
	for i, odd := range slices.Concat(oddTerms(), deepOdds()) {
		d := dbOf(6, 2)
		d.Clauses[i%6].Body = odd
		wantRefused(t, d, so, fmt.Sprintf("with odd body %d", i))
		d = dbOf(6, 2)
		d.Clauses[i%6].Head = structTerm("p", odd)
		wantRefused(t, d, so, fmt.Sprintf("with p of odd head %d", i))
	}
	wantTold(t, dbOf(120, 40), so, "true: done at 1")
	wantRefused(t, dbOf(121, 40), so, "of 121 clauses")
	wantRefused(t, dbOf(120, 41), so, "with 41 open")
	wantRefused(t, dbOf(0, 41), so, "of no clauses with 41 open")
	wantRefused(t, dbOf(121, 41), varTerm(-1), "of 121 clauses, a goal that is not right")
}

// The greatest clauses that may be are asked for, too.
func TestAskOfTheGreatestClauses(t *testing.T) {
	a := atomTerm("a")
	whole := impl.Clause{Head: pOf(wideTerm(399, a)), Body: pOf(wideTerm(399, a)), File: strings.Repeat("f", 100)}
	deep := impl.Clause{Head: pOf(chainTerm(39, a)), Body: andTerm(a, chainTerm(39, a))}
	d := impl.Db{Clauses: []impl.Clause{whole, deep, {Head: pOf(varTerm(0)), Body: atomTerm("true")}}}
	x := varTerm(0)
	wantTold(t, d, notTerm(notTerm(andTerm(pOf(x), atomTerm("fail")))), ": stop at 2000")
	wantTold(t, impl.Db{Clauses: d.Clauses[1:]}, pOf(chainTerm(39, a)), ": ball error(unknown,'a/0') at 3")
	// `:-` of a head and a body that are so great is not right, and can't be taken out.
	for _, c := range []impl.Clause{whole, deep} {
		one := impl.Db{Clauses: []impl.Clause{c}}
		for _, goal := range []impl.Term{pOf(x), ifTerm(pOf(x), varTerm(1)), ifTerm(c.Head, varTerm(1))} {
			if impl.TermOk(structTerm("retract", goal)) {
				wantTold(t, one, structTerm("retract", goal), ": done at 1")
			}
		}
	}
	// One of 399 terms, with `:-` of it and `true`, is too great, too.
	for more := range 3 {
		one := clausesOf(t, pOf(wideTerm(396+more, a)))
		goal := structTerm("retract", pOf(varTerm(0)))
		o := wantAskByRule(t, one, notTerm(goal), 100)
		if taken := len(o.Db.Clauses) == 0; taken != (more < 2) || o.End != impl.EnDone {
			t.Errorf("a fact of %d: told %.300s", 397+more, toldOf(o))
		}
	}
}

// outcomeTerms are all terms of an outcome.
func outcomeTerms(o impl.Outcome) []impl.Term {
	return append(append(slices.Clone(o.Answers), o.Ball), listsOfClauses(o.Db.Clauses)...)
}

func copyOutcome(o impl.Outcome) impl.Outcome {
	answers := make([]impl.Term, len(o.Answers))
	for i, answer := range o.Answers {
		answers[i] = deepCopy(answer)
	}
	o.Answers, o.Ball, o.Db = answers, deepCopy(o.Ball), copyDb(o.Db)
	return o
}

func spoilOutcome(o impl.Outcome) {
	for _, answer := range o.Answers {
		spoilTerm(answer)
	}
	clear(o.Answers[:cap(o.Answers)])
	spoilTerm(o.Ball)
	spoilDb(o.Db)
}

// sharing has goals whose answers, balls and clauses have the same lists many times, in what is asked and by what TmVars stand for.
func sharing(t *testing.T) (impl.Db, []impl.Term) {
	d := readClauses(t, "p(f(a, X), f(a, X)). p(Y, Y). q(Z) :- p(Z, W), assertz(r(Z, Z, W)). q(g(b)) :- throw(k(Z, f(b))). s(X) :- retract(p(X, Y)), assertz(p(Y, X)), write(X). e :- none(f(a)).", "file")
	d = impl.Opened(d, "open/3")
	shared := []impl.Term{atomTerm("a"), structTerm("h", atomTerm("b"), varTerm(2))}
	d.Clauses = append(d.Clauses, impl.Clause{Head: structTerm("t", shared...), Body: sameAs(structTerm("t", shared...), structTerm("f", shared...)), File: "other"})
	v := structTerm("v", shared...)
	goals := []impl.Term{sameAs(v, v), sameAs(varTerm(0), v), andTerm(sameAs(varTerm(0), v), andTerm(sameAs(varTerm(1), varTerm(0)), structTerm("assertz", structTerm("n", varTerm(0), varTerm(1), v)))), structTerm("throw", structTerm("b", v, v)), structTerm("catch", structTerm("throw", structTerm("b", v, v)), varTerm(0), structTerm("assertz", structTerm("m", varTerm(0), varTerm(0))))}
	for _, text := range []string{"p(X, Y)", "q(X)", "q(g(Y))", "s(X)", "s(X), s(Y)", "e", "catch(e, X, true)", "catch(q(g(X)), Y, assertz(u(Y, Y)))", "X = f(Y, Y), Y = g(Z, Z), Z = h(a)", "fail", "t(X, Y)", "retract((q(X) :- Y))", "assertz(z(f(X), f(X)))", "write(a), true"} {
		goals = append(goals, readOne(t, text))
	}
	return d, goals
}

func TestAskAnswersNewMemory(t *testing.T) {
	d, goals := sharing(t)
	wrong, _ := wrongDb()
	for _, goal := range goals {
		for _, asked := range []impl.Db{d, wrong} {
			before, was := copyDb(asked), deepCopy(goal)
			one, other := impl.Ask(asked, goal, 100), impl.Ask(asked, goal, 100)
			all := slices.Concat(outcomeTerms(one), outcomeTerms(other))
			if asked.Clauses[0].File == "file" {
				wantNoListTwice(t, impl.WriteTerm(goal), all...)
			}
			answer := copyOutcome(other)
			spoilOutcome(one)
			if !equalOutcomes(other, answer) {
				t.Errorf("%s: two outcomes share memory", impl.WriteTerm(goal))
			}
			if !equalDbs(asked, before) || !equalTerms(goal, was) {
				t.Errorf("%s: the outcome shares memory with what was asked", impl.WriteTerm(goal))
			}
			if again := impl.Ask(asked, goal, 100); !equalOutcomes(again, answer) {
				t.Errorf("%s: told otherwise when asked again", impl.WriteTerm(goal))
			}
		}
	}
}

func TestAskAnswersStayAsTheyAre(t *testing.T) {
	d, goals := sharing(t)
	var told, was []impl.Outcome
	for _, goal := range goals {
		o := impl.Ask(copyDb(d), goal, 100)
		told, was = append(told, o), append(was, copyOutcome(o))
	}
	// From what came of one it goes on, and what it was asked with is written over.
	for i, goal := range goals {
		asked, from := copyDb(told[i].Db), deepCopy(goal)
		impl.Ask(told[i].Db, goal, 100)
		o := impl.Ask(asked, from, 100)
		kept := copyOutcome(o)
		spoilDb(asked)
		spoilTerm(from)
		if !equalOutcomes(o, kept) {
			t.Errorf("%s: the outcome changes with what was asked", impl.WriteTerm(goal))
		}
	}
	for i, goal := range goals {
		if !equalOutcomes(told[i], was[i]) {
			t.Errorf("%s: the outcome changed behind later calls", impl.WriteTerm(goal))
		}
	}
}

func TestAskAnswersNewNames(t *testing.T) {
	name, file, open := strings.Repeat("n", 12), strings.Repeat("f", 12), strings.Repeat("o", 12)+"/0"
	n := func(kids ...impl.Term) impl.Term { return structTerm(name, kids...) }
	a, x := atomTerm(name), varTerm(0)
	d := impl.Db{Clauses: []impl.Clause{{Head: n(a), Body: atomTerm("true"), File: file}, {Head: n(a, x), Body: structTerm("throw", n(a, x)), File: file}}, Open: []string{open}}
	looked := 0
	for _, asked := range []impl.Db{d, {Clauses: append(slices.Clone(d.Clauses), impl.Clause{Head: varTerm(1), File: file}), Open: d.Open}} {
		for _, goal := range []impl.Term{n(x), n(a), n(x, a), structTerm("assertz", n(n(a))), structTerm("assertz", a), structTerm("throw", a), structTerm("catch", n(a, a), x, structTerm("assertz", x)), structTerm("retract", n(x)), structTerm("call", a, x), sameAs(x, n(a)), structTerm("write", a), a} {
			o := impl.Ask(asked, goal, 100)
			texts := append([]string{o.Out}, o.Db.Open...)
			for _, c := range o.Db.Clauses {
				texts = append(texts, c.File)
			}
			for _, list := range listsIn(structTerm("w", outcomeTerms(o)...), 1000) {
				for _, term := range list {
					texts = append(texts, term.Name)
				}
			}
			for _, text := range texts {
				for _, whole := range []string{name, file, open} {
					if text != "" && shares(whole, text) {
						t.Errorf("%s: %q lies in what was asked", impl.WriteTerm(goal), text)
					}
				}
			}
			looked += len(texts)
		}
	}
	if looked < 200 {
		t.Errorf("only %d texts were looked at", looked)
	}
}

func TestAskIsNotWrittenInto(t *testing.T) {
	r := rand.New(rand.NewSource(112))
	fixed, goals := sharing(t)
	for i := range 4000 {
		d, goal := drawnProgram(r), drawnGoal(r, 1+r.Intn(4))
		if i < len(goals) {
			d, goal = fixed, goals[i]
		}
		asked, one := spareDb(d), withSpare(goal)
		impl.Ask(asked, one, 60)
		if !equalDbs(asked, d) || !spareDbUntouched(asked) || !equalTerms(one, goal) || !spareUntouched(one) {
			t.Fatalf("%s or %s was written into", shownDb(d), shown(goal))
		}
	}
	for _, goal := range slices.Concat(rightTerms(), oddTerms(), deepOdds()) {
		one := withSpare(goal)
		impl.Ask(spareDb(fixed), one, 60)
		if !equalTerms(one, goal) || !spareUntouched(one) {
			t.Fatalf("%s was written into", shown(goal))
		}
	}
}

// No call keeps anything for a later one: not a clause, not what was written, not what a TmVar stood for.
func TestAskHangsOnWhatIsAskedAlone(t *testing.T) {
	r := rand.New(rand.NewSource(113))
	var dbs []impl.Db
	var goals []impl.Term
	var told []impl.Outcome
	for range 200 {
		d, goal := drawnProgram(r), drawnGoal(r, 3)
		dbs, goals, told = append(dbs, d), append(goals, goal), append(told, impl.Ask(d, goal, 50))
	}
	for range 2000 {
		i := r.Intn(len(goals))
		if o := impl.Ask(dbs[i], goals[i], 50); !equalOutcomes(o, told[i]) {
			t.Fatalf("%s: told %s, then %s", impl.WriteTerm(goals[i]), toldOf(told[i]), toldOf(o))
		}
	}
	d := readClauses(t, "p(1).", "f")
	for n := range 20 {
		d.Clauses[0].Head.Kids[0].Num = n
		wantTold(t, d, structTerm("p", varTerm(0)), fmt.Sprintf("p(%d): done at 2", n))
	}
}

// What comes of one is asked again: the clauses are those that there were at the end.
func TestAskGoesOnFromItsDb(t *testing.T) {
	d := readClauses(t, "p(1).", "f")
	for n := 2; n < 9; n++ {
		o := impl.Ask(d, readOne(t, fmt.Sprintf("assertz(p(%d))", n)), 10)
		if len(d.Clauses) != n-1 || len(o.Db.Clauses) != n {
			t.Fatalf("%d clauses became %d", len(d.Clauses), len(o.Db.Clauses))
		}
		d = o.Db
	}
	wantTold(t, d, readOne(t, "p(X), 6 < X"), "(p(7) , (6 < 7)) (p(8) , (6 < 8)): done at 18")
	d = impl.Ask(d, readOne(t, "p(X), X < 7, retract(p(X)), fail"), 100).Db
	wantTold(t, d, readOne(t, "p(X)"), "p(7) p(8): done at 3")
}

func TestAskTakesNilForEmpty(t *testing.T) {
	so := impl.Term{Kind: impl.TmAtom, Name: "p", Kids: []impl.Term{}}
	d := impl.Db{Clauses: []impl.Clause{{Head: so, Body: so}, {Head: impl.Term{Kind: impl.TmAtom, Name: "p"}, Body: impl.Term{Kind: impl.TmAtom, Name: "true", Kids: []impl.Term{}}}}, Open: []string{}}
	wantTold(t, impl.Db{Clauses: d.Clauses[1:]}, so, "p: done at 2")
	wantTold(t, d, so, ": stop at 2000")
	wantTold(t, impl.Db{Clauses: []impl.Clause{}, Open: []string{}}, impl.Term{Kind: impl.TmAtom, Name: "true", Kids: []impl.Term{}}, "true: done at 1")
	wantTold(t, impl.Db{}, impl.Term{Kind: impl.TmVar, Kids: []impl.Term{}}, ": ball error(inst,'call/1') at 1")
	o := impl.Ask(impl.Db{}, atomTerm("fail"), 9)
	if len(o.Answers) != 0 || len(o.Db.Clauses) != 0 || len(o.Db.Open) != 0 {
		t.Errorf("told %s, %s", toldOf(o), shownDb(o.Db))
	}
}

// drawnArg is what stands in goals and heads.
func drawnArg(r *rand.Rand, deep int) impl.Term {
	switch k := r.Intn(20); {
	case k < 9:
		return varTerm(r.Intn(4))
	case k < 13 || deep == 0:
		return atomTerm([]string{"a", "b", "c"}[r.Intn(3)])
	case k < 15:
		return intTerm(r.Intn(4))
	case k < 18:
		return structTerm("f", drawnArg(r, deep-1))
	case k == 18:
		return structTerm("g", drawnArg(r, deep-1), drawnArg(r, deep-1))
	}
	return drawnGoal(r, deep-1)
}

// drawnCall is a goal of one of a few predicates, most of which have clauses.
func drawnCall(r *rand.Rand) impl.Term {
	switch k := r.Intn(30); {
	case k == 0:
		return structTerm("none", drawnArg(r, 1))
	case k < 3:
		return atomTerm("o")
	case k < 7:
		return atomTerm("r")
	case k < 20:
		return pOf(drawnArg(r, 2))
	}
	return structTerm("q", drawnArg(r, 1), drawnArg(r, 2))
}

// drawnLeaf is a goal without others in it.
func drawnLeaf(r *rand.Rand) impl.Term {
	switch k := r.Intn(20); {
	case k < 2:
		return atomTerm("true")
	case k < 4:
		return atomTerm("fail")
	case k < 7:
		return atomTerm("!")
	case k < 13:
		return drawnCall(r)
	case k < 19:
		return drawnDone(r)
	}
	return varTerm(r.Intn(4))
}

func drawnGoal(r *rand.Rand, deep int) impl.Term {
	if deep <= 0 {
		return drawnLeaf(r)
	}
	goal := func() impl.Term { return drawnGoal(r, deep-1-r.Intn(2)) }
	switch k := r.Intn(30); {
	case k < 10:
		return andTerm(goal(), goal())
	case k < 13:
		return orTerm(goal(), goal())
	case k < 16:
		return orTerm(structTerm("->", goal(), goal()), goal())
	case k < 17:
		return structTerm("->", goal(), goal())
	case k < 18:
		return notTerm(goal())
	case k < 20:
		return structTerm("call", goal())
	case k < 21:
		first := []impl.Term{atomTerm("p"), structTerm("q", drawnArg(r, 1)), varTerm(r.Intn(4)), atomTerm("="), atomTerm(","), structTerm(";", goal())}[r.Intn(6)]
		return structTerm("call", append([]impl.Term{first}, []impl.Term{drawnArg(r, 1), goal()}[r.Intn(2):]...)...)
	case k < 24:
		return structTerm("catch", goal(), drawnArg(r, 1), goal())
	case k < 25:
		return andTerm(structTerm("throw", drawnArg(r, 2)), goal())
	case k < 28:
		return andTerm(sameAs(varTerm(r.Intn(4)), goal()), goal())
	}
	return drawnLeaf(r)
}

// drawnDone is a goal that is done at once.
func drawnDone(r *rand.Rand) impl.Term {
	x, y := drawnArg(r, 2), drawnArg(r, 2)
	clause := []impl.Term{drawnCall(r), ifTerm(drawnCall(r), drawnGoal(r, r.Intn(2))), x}[r.Intn(3)]
	switch k := r.Intn(40); {
	case k < 14:
		return sameAs(varTerm(r.Intn(4)), y)
	case k < 16:
		return sameAs(x, y)
	case k < 18:
		return structTerm(`\=`, x, y)
	case k < 20:
		return structTerm("==", x, y)
	case k < 22:
		return structTerm("is", x, plus(intTerm(1), drawnSum(r, r.Intn(4), 1)))
	case k < 24:
		return structTerm([]string{"<", "=:="}[r.Intn(2)], drawnSum(r, r.Intn(3), 1), drawnSum(r, r.Intn(3), 1))
	case k < 27:
		return structTerm([]string{"var", "atom"}[r.Intn(2)], x)
	case k < 31:
		return structTerm("write", x)
	case k < 34:
		return structTerm("assertz", clause)
	case k < 37:
		return structTerm("retract", clause)
	case k < 39:
		return structTerm("throw", x)
	}
	return []impl.Term{ifTerm(x, y), structTerm(":-", x), ruleTerm(x, y), intTerm(3)}[r.Intn(4)]
}

// drawnProgram has clauses of a few predicates between one another.
func drawnProgram(r *rand.Rand) impl.Db {
	d := impl.Db{Open: []string{"o/0"}}
	for range 2 + r.Intn(9) {
		body := atomTerm("true")
		if r.Intn(5) < 2 {
			body = drawnGoal(r, 1+r.Intn(2))
		}
		c, _ := impl.ClauseOf(ifTerm(drawnCall(r), body), "f")
		d, _ = impl.Added(d, c)
	}
	return d
}

func TestAskIsTheDocumentsRule(t *testing.T) {
	r := rand.New(rand.NewSource(111))
	var met, answers [9]int
	wrote, changed, long, steps := 0, 0, 0, 0
	for range 40000 {
		d, goal := drawnProgram(r), drawnGoal(r, 1+r.Intn(4))
		if !impl.TermOk(goal) {
			continue
		}
		o := wantAskByRule(t, d, goal, r.Intn(120))
		met[o.End]++
		answers[len(o.Answers)]++
		steps += o.Steps
		if o.Out != "" {
			wrote++
		}
		if !equalDbs(d, o.Db) {
			changed++
		}
		if o.Steps > 30 {
			long++
		}
	}
	for end, least := range []int{15000, 1500, 8000, 100} {
		if met[end] < least {
			t.Errorf("only %d are drawn that end with %d", met[end], end)
		}
	}
	for many, least := range []int{15000, 8000, 1000, 300, 150, 40, 40, 10, 100} {
		if answers[many] < least {
			t.Errorf("only %d are drawn that have %d answers", answers[many], many)
		}
	}
	if wrote < 1500 || changed < 1000 || long < 400 {
		t.Errorf("only %d are drawn that write, %d that change clauses, %d that are long", wrote, changed, long)
	}
}

// putTogether puts goals into another one, at random.
func putTogether(r *rand.Rand, goals []impl.Term) impl.Term {
	one := func() impl.Term { return goals[r.Intn(len(goals))] }
	switch r.Intn(12) {
	case 0:
		return structTerm("call", one())
	case 1:
		return structTerm("catch", one(), varTerm(40), one())
	case 2:
		return structTerm("catch", andTerm(one(), structTerm("throw", varTerm(0))), varTerm(41), one())
	case 3:
		return orTerm(one(), one())
	case 4:
		return orTerm(structTerm("->", one(), one()), one())
	case 5:
		return notTerm(one())
	case 6:
		return andTerm(one(), atomTerm("!"))
	case 7:
		return orTerm(andTerm(one(), andTerm(atomTerm("!"), one())), one())
	case 8:
		return andTerm(sameAs(varTerm(42), one()), structTerm("call", varTerm(42)))
	case 9:
		return andTerm(structTerm("assertz", ifTerm(atomTerm("made"), one())), atomTerm("made"))
	}
	return andTerm(one(), one())
}

// Programs that go far, with their goals put into one another.
func TestAskOfProgramsIsTheDocumentsRule(t *testing.T) {
	r := rand.New(rand.NewSource(114))
	var met [4]int
	for _, one := range programs() {
		d := impl.Opened(readClauses(t, one[0], "f"), "o/0")
		goals := []impl.Term{readOne(t, one[1]), atomTerm("true"), atomTerm("o"), structTerm("write", varTerm(0))}
		for range 60 {
			goal := putTogether(r, goals)
			if !impl.TermOk(goal) {
				continue
			}
			met[wantAskByRule(t, d, goal, 30+r.Intn(200)).End]++
			if len(goals) < 12 {
				goals = append(goals, goal)
			}
		}
	}
	for end, least := range []int{300, 100, 30, 20} {
		if met[end] < least {
			t.Errorf("only %d are drawn that end with %d", met[end], end)
		}
	}
}
