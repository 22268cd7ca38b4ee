package tests

import (
	"fmt"
	"math"
	"math/rand"
	"slices"
	"strings"
	"testing"

	"loop.example/g00469/impl"
)

// bound is what one number stands for.
type bound struct {
	number int
	to     impl.Term
}

func bindsOf(many int, all ...bound) impl.Binds {
	b := impl.Binds{List: make([]impl.Term, many)}
	for _, one := range all {
		b.List[one.number] = one.to
	}
	return b
}

func copyBinds(b impl.Binds) impl.Binds {
	var list []impl.Term
	for _, t := range b.List {
		list = append(list, deepCopy(t))
	}
	return impl.Binds{List: list}
}

func equalBinds(a, b impl.Binds) bool { return slices.EqualFunc(a.List, b.List, equalTerms) }

func shownBinds(b impl.Binds) string {
	var all []string
	for i, t := range b.List {
		if t.Kind != 0 && len(all) < 12 {
			all = append(all, fmt.Sprintf("%d=%s", i, shown(t)))
		}
	}
	return fmt.Sprintf("%d[%s]", len(b.List), strings.Join(all, ", "))
}

// rowBinds has so many numbers, each standing for the next one, and the last one for the term.
func rowBinds(many int, last impl.Term) impl.Binds {
	b := impl.Binds{List: make([]impl.Term, many)}
	for i := range b.List {
		b.List[i] = varTerm(i + 1)
	}
	b.List[many-1] = last
	return b
}

// ringBinds is a row whose last number stands for the first one, with some numbers behind it that stand for nothing.
func ringBinds(round, behind int) impl.Binds {
	b := rowBinds(round, varTerm(0))
	b.List = append(b.List, make([]impl.Term, behind)...)
	return b
}

func TestBindsNewHasNothing(t *testing.T) {
	for _, c := range []struct{ n, want int }{
		{math.MinInt, 0}, {-5000, 0}, {-1, 0}, {0, 0}, {1, 1}, {2, 2}, {4999, 4999}, {5000, 5000}, {5001, 5000}, {100000, 5000}, {math.MaxInt, 5000},
	} {
		b := impl.BindsNew(c.n)
		if len(b.List) != c.want {
			t.Errorf("BindsNew(%d) has %d numbers; want %d", c.n, len(b.List), c.want)
		}
		for i, one := range b.List {
			if !equalTerms(one, impl.Term{}) {
				t.Errorf("in BindsNew(%d) number %d stands for %s", c.n, i, shown(one))
			}
		}
	}
	first := impl.BindsNew(2)
	first.List[0] = atomTerm("a")
	if impl.BindsNew(2).List[0].Kind != 0 {
		t.Error("BindsNew keeps what was written into its answer")
	}
}

func wantWalked(t *testing.T, b impl.Binds, term, want impl.Term) {
	t.Helper()
	if got := impl.Walked(b, term); !equalTerms(got, want) {
		t.Errorf("Walked(%s, %s) = %s; want %s", shownBinds(b), shown(term), shown(got), shown(want))
	}
}

func TestWalkedGoesUpToNothing(t *testing.T) {
	a, f := atomTerm("a"), structTerm("f", varTerm(0), varTerm(1))
	b := bindsOf(6, bound{1, a}, bound{2, varTerm(1)}, bound{3, f}, bound{4, varTerm(0)}, bound{5, varTerm(3)})
	wantWalked(t, b, varTerm(0), varTerm(0))
	wantWalked(t, b, varTerm(1), a)
	wantWalked(t, b, varTerm(2), a)
	wantWalked(t, b, varTerm(3), f)
	wantWalked(t, b, varTerm(4), varTerm(0))
	wantWalked(t, b, varTerm(5), f)
	wantWalked(t, bindsOf(1, bound{0, intTerm(-7)}), varTerm(0), intTerm(-7))
}

func TestWalkedBeyondTheList(t *testing.T) {
	a := atomTerm("a")
	b := bindsOf(3, bound{0, a}, bound{2, a})
	wantWalked(t, b, varTerm(2), a)
	for _, n := range []int{3, 4, 5000, 99999, 100000, math.MaxInt, -1, -3, math.MinInt} {
		wantWalked(t, b, varTerm(n), varTerm(n))
		wantWalked(t, impl.Binds{}, varTerm(n), varTerm(n))
		wantWalked(t, bindsOf(2, bound{1, varTerm(n)}), varTerm(1), varTerm(n))
	}
	wantWalked(t, impl.Binds{}, varTerm(0), varTerm(0))
}

func TestWalkedLeavesWhatIsNoName(t *testing.T) {
	b := bindsOf(10)
	for i := range b.List {
		b.List[i] = atomTerm("z")
	}
	for _, term := range append(rightTerms(), append(oddTerms(), deepOdds()...)...) {
		if term.Kind != impl.TmVar {
			wantWalked(t, b, term, term)
		}
	}
	for i, term := range greatTerms() {
		if !impl.SameTerm(impl.Walked(b, term), term) {
			t.Errorf("Walked of great term %d is another one", i)
		}
		b.List[3] = term
		if !impl.SameTerm(impl.Walked(b, varTerm(3)), term) {
			t.Errorf("Walked of what stands for great term %d is another one", i)
		}
	}
}

func TestWalkedOfWhatIsNotRight(t *testing.T) {
	for _, odd := range append(oddTerms(), deepOdds()...) {
		if odd.Kind != 0 {
			wantWalked(t, bindsOf(2, bound{0, odd}), varTerm(0), odd)
			wantWalked(t, bindsOf(5, bound{0, odd}, bound{4, varTerm(0)}), varTerm(4), odd)
		}
	}
	odd := impl.Term{Kind: impl.TmVar, Num: 1, Name: "X", Kids: []impl.Term{atomTerm("b")}}
	wantWalked(t, bindsOf(2, bound{1, atomTerm("a")}), odd, atomTerm("a"))
	wantWalked(t, bindsOf(2, bound{0, odd}, bound{1, atomTerm("a")}), varTerm(0), atomTerm("a"))
	wantWalked(t, bindsOf(2), odd, odd)
}

// What has Kind 0 is nothing, whatever else it has.
func TestWalkedTakesKindNoughtForNothing(t *testing.T) {
	nothing := impl.Term{Name: "a", Num: 3, Kids: []impl.Term{atomTerm("b")}}
	b := bindsOf(2, bound{0, nothing}, bound{1, varTerm(0)})
	wantWalked(t, b, varTerm(0), varTerm(0))
	wantWalked(t, b, varTerm(1), varTerm(0))
	wantWalked(t, b, nothing, nothing)
}

func TestWalkedGoesFiveThousandTimes(t *testing.T) {
	a := atomTerm("a")
	for _, many := range []int{1, 2, 4999, 5000} {
		wantWalked(t, rowBinds(many, impl.Term{}), varTerm(0), varTerm(many-1))
		wantWalked(t, rowBinds(many, a), varTerm(0), a)
	}
	wantWalked(t, rowBinds(5001, impl.Term{}), varTerm(0), varTerm(5000))
	wantWalked(t, rowBinds(5001, a), varTerm(0), varTerm(5000))
	wantWalked(t, rowBinds(5001, a), varTerm(1), a)
	wantWalked(t, rowBinds(5002, impl.Term{}), varTerm(0), varTerm(5000))
	wantWalked(t, rowBinds(20000, a), varTerm(0), varTerm(5000))
	wantWalked(t, rowBinds(20000, a), varTerm(7), varTerm(5007))
}

func TestWalkedOfRings(t *testing.T) {
	for _, round := range []int{1, 2, 3, 4, 5, 6, 7, 11, 4999, 5000, 5001, 7000} {
		for _, first := range []int{0, round / 2, round - 1} {
			wantWalked(t, ringBinds(round, 3), varTerm(first), varTerm((first+5000)%round))
		}
	}
}

func wantFilled(t *testing.T, b impl.Binds, term, want impl.Term) {
	t.Helper()
	if got, ok := impl.Filled(b, term); !ok || !equalTerms(got, want) {
		t.Errorf("Filled(%s, %s) = %s, %t; want %s", shownBinds(b), shown(term), shown(got), ok, shown(want))
	}
}

func wantNotFilled(t *testing.T, b impl.Binds, term impl.Term) {
	t.Helper()
	if got, ok := impl.Filled(b, term); ok || !equalTerms(got, impl.Term{}) {
		t.Errorf("Filled(%s, %s) = %s, %t; want nothing, false", shownBinds(b), shown(term), shown(got), ok)
	}
}

func TestFilledAgainAndAgain(t *testing.T) {
	a, n := atomTerm("a"), intTerm(9)
	b := bindsOf(8,
		bound{0, structTerm("f", varTerm(1), varTerm(4))},
		bound{1, structTerm("g", varTerm(2))},
		bound{2, varTerm(3)},
		bound{3, structTerm("h", varTerm(5), n)},
		bound{5, a})
	h := structTerm("h", a, n)
	wantFilled(t, b, varTerm(3), h)
	wantFilled(t, b, varTerm(2), h)
	wantFilled(t, b, varTerm(0), structTerm("f", structTerm("g", h), varTerm(4)))
	wantFilled(t, b, structTerm("k", varTerm(0), varTerm(2), varTerm(6), a, varTerm(99999)),
		structTerm("k", structTerm("f", structTerm("g", h), varTerm(4)), h, varTerm(6), a, varTerm(99999)))
	wantFilled(t, b, chainTerm(30, varTerm(1)), chainTerm(30, structTerm("g", h)))
	wantFilled(t, impl.Binds{}, structTerm("f", varTerm(0), a), structTerm("f", varTerm(0), a))
	for _, term := range rightTerms() {
		wantFilled(t, impl.Binds{}, term, term)
		wantFilled(t, impl.BindsNew(5000), term, term)
		wantFilled(t, bindsOf(61, bound{60, term}), varTerm(60), term)
	}
}

func TestFilledOfNamesInThemselves(t *testing.T) {
	a := atomTerm("a")
	at := bindsOf(3, bound{0, structTerm("f", varTerm(0))}, bound{1, a})
	wantNotFilled(t, at, varTerm(0))
	wantNotFilled(t, at, structTerm("g", a, structTerm("h", varTerm(0))))
	wantFilled(t, at, structTerm("g", a, varTerm(1), varTerm(2)), structTerm("g", a, a, varTerm(2)))
	by := bindsOf(5, bound{0, structTerm("f", a, varTerm(1))}, bound{1, varTerm(2)}, bound{2, structTerm("g", varTerm(3), a)}, bound{3, structTerm("f", varTerm(0))})
	for n := range 4 {
		wantNotFilled(t, by, varTerm(n))
		wantNotFilled(t, by, structTerm("f", varTerm(4), varTerm(n)))
	}
	wantNotFilled(t, bindsOf(1, bound{0, structTerm("f", varTerm(0), varTerm(0), varTerm(0), varTerm(0), varTerm(0))}), varTerm(0))
}

func TestFilledHoldsItsLimits(t *testing.T) {
	a := atomTerm("a")
	for deep := 1; deep <= 40; deep++ {
		b := bindsOf(2, bound{0, chainTerm(deep, a)}, bound{1, varTerm(0)})
		wantFilled(t, b, chainTerm(41-deep, varTerm(1)), chainTerm(40, a))
		wantNotFilled(t, b, chainTerm(42-deep, varTerm(1)))
		wantNotFilled(t, b, structTerm("f", a, chainTerm(41-deep, varTerm(0))))
	}
	for size := 1; size <= 399; size++ {
		b := bindsOf(2, bound{0, varTerm(1)}, bound{1, wideTerm(size, a)})
		wantFilled(t, b, wideTerm(401-size, varTerm(0)), wideTerm(401-size, wideTerm(size, a)))
		wantNotFilled(t, b, wideTerm(402-size, varTerm(0)))
	}
	half := bindsOf(1, bound{0, wideTerm(199, a)})
	wantFilled(t, half, structTerm("f", varTerm(0), a, varTerm(0)), structTerm("f", half.List[0], a, half.List[0]))
	wantNotFilled(t, half, structTerm("f", varTerm(0), a, a, varTerm(0)))
	doubling := impl.Binds{List: []impl.Term{a}}
	for i := range 60 {
		doubling.List = append(doubling.List, structTerm("f", varTerm(i), varTerm(i)))
	}
	wantFilled(t, doubling, varTerm(7), doubledTerm(7, a))
	for _, n := range []int{8, 9, 30, 60} {
		wantNotFilled(t, doubling, varTerm(n))
	}
}

func TestFilledOfWhatIsNotRight(t *testing.T) {
	for _, odd := range append(oddTerms(), deepOdds()...) {
		wantNotFilled(t, impl.Binds{}, odd)
		wantNotFilled(t, impl.Binds{}, structTerm("f", atomTerm("a"), odd))
		if odd.Kind == 0 {
			continue
		}
		b := bindsOf(3, bound{0, odd}, bound{2, varTerm(0)})
		wantNotFilled(t, b, varTerm(0))
		wantNotFilled(t, b, structTerm("f", atomTerm("a"), varTerm(2)))
		wantFilled(t, b, structTerm("f", varTerm(1)), structTerm("f", varTerm(1)))
	}
	for _, great := range greatTerms() {
		wantNotFilled(t, impl.BindsNew(3), great)
		wantNotFilled(t, bindsOf(1, bound{0, great}), varTerm(0))
		wantNotFilled(t, bindsOf(1, bound{0, great}), structTerm("f", varTerm(0)))
	}
}

// What counts is whether it is right when it is filled, not whether it was.
func TestFilledMayMakeATermRight(t *testing.T) {
	odd := impl.Term{Kind: impl.TmVar, Num: 1, Name: "X", Kids: []impl.Term{atomTerm("b")}}
	b := bindsOf(2, bound{1, atomTerm("a")})
	wantFilled(t, b, odd, atomTerm("a"))
	wantFilled(t, b, structTerm("f", odd), structTerm("f", atomTerm("a")))
	wantNotFilled(t, bindsOf(2), odd)
}

func TestFilledOfLongRows(t *testing.T) {
	a := atomTerm("a")
	for _, many := range []int{4999, 5000, 5001, 5002, 10000, 10001, 20000} {
		wantFilled(t, rowBinds(many, a), varTerm(0), a)
		wantFilled(t, rowBinds(many, impl.Term{}), structTerm("f", varTerm(0)), structTerm("f", varTerm(many-1)))
	}
}

// Names in a ring stand for no other term, and are what Walked tells.
func TestFilledOfRings(t *testing.T) {
	for _, round := range []int{1, 2, 3, 4, 7, 4999, 5000, 5001, 7000} {
		b := ringBinds(round, 2)
		for _, first := range []int{0, round / 2, round - 1} {
			wantFilled(t, b, varTerm(first), impl.Walked(b, varTerm(first)))
			wantFilled(t, b, structTerm("f", varTerm(first)), structTerm("f", impl.Walked(b, varTerm(first))))
		}
	}
}

func wantUnified(t *testing.T, b impl.Binds, x, y impl.Term, more ...bound) {
	t.Helper()
	want := copyBinds(b)
	for _, one := range more {
		want.List[one.number] = one.to
	}
	if got, ok := impl.Unify(b, x, y); !ok || !equalBinds(got, want) {
		t.Errorf("Unify(%s, %s, %s) = %s, %t; want %s", shownBinds(b), shown(x), shown(y), shownBinds(got), ok, shownBinds(want))
	}
}

func wantNotUnified(t *testing.T, b impl.Binds, x, y impl.Term) {
	t.Helper()
	if got, ok := impl.Unify(b, x, y); ok || !equalBinds(got, b) {
		t.Errorf("Unify(%s, %s, %s) = %s, %t; want it as it is, false", shownBinds(b), shown(x), shown(y), shownBinds(got), ok)
	}
}

// wantUnifiedBoth is for what is the same whichever of both comes first.
func wantUnifiedBoth(t *testing.T, b impl.Binds, x, y impl.Term, more ...bound) {
	t.Helper()
	wantUnified(t, b, x, y, more...)
	wantUnified(t, b, y, x, more...)
}

func wantNeverUnified(t *testing.T, b impl.Binds, x, y impl.Term) {
	t.Helper()
	wantNotUnified(t, b, x, y)
	wantNotUnified(t, b, y, x)
}

func TestUnifyNames(t *testing.T) {
	b := bindsOf(5, bound{3, varTerm(1)}, bound{4, varTerm(2)})
	for n := range 5 {
		wantUnified(t, b, varTerm(n), varTerm(n))
	}
	wantUnifiedBoth(t, b, varTerm(0), varTerm(1), bound{1, varTerm(0)})
	wantUnifiedBoth(t, b, varTerm(1), varTerm(2), bound{2, varTerm(1)})
	wantUnifiedBoth(t, b, varTerm(3), varTerm(1))
	wantUnifiedBoth(t, b, varTerm(3), varTerm(4), bound{2, varTerm(1)})
	wantUnifiedBoth(t, b, varTerm(3), varTerm(0), bound{1, varTerm(0)})
	wantUnifiedBoth(t, b, varTerm(3), varTerm(2), bound{2, varTerm(1)})
}

func TestUnifyANameAndATerm(t *testing.T) {
	a := atomTerm("a")
	b := bindsOf(4, bound{1, a}, bound{2, varTerm(0)})
	for _, term := range []impl.Term{a, intTerm(-3), structTerm("f", a), structTerm("f", varTerm(3), a), structTerm("f", varTerm(9))} {
		wantUnifiedBoth(t, b, varTerm(0), term, bound{0, term})
		wantUnifiedBoth(t, b, varTerm(2), term, bound{0, term})
	}
	// What it stands for is as it was told: what is in it is not filled.
	wantUnifiedBoth(t, b, varTerm(3), structTerm("f", varTerm(1), varTerm(2)), bound{3, structTerm("f", varTerm(1), varTerm(2))})
	wantUnifiedBoth(t, b, varTerm(1), a)
	wantUnifiedBoth(t, b, varTerm(1), varTerm(3), bound{3, a})
	wantUnifiedBoth(t, b, varTerm(1), varTerm(2), bound{0, a})
	wantNeverUnified(t, b, varTerm(1), atomTerm("b"))
	wantNeverUnified(t, b, varTerm(1), structTerm("a", a))
}

func TestUnifyPlainTerms(t *testing.T) {
	plain := []impl.Term{
		atomTerm("a"), atomTerm("b"), atomTerm("aa"), atomTerm("1"), intTerm(0), intTerm(1), intTerm(-1), intTerm(impl.MaxInt),
		structTerm("a", atomTerm("a")), structTerm("a", atomTerm("b")), structTerm("b", atomTerm("a")), structTerm("a", intTerm(1)),
		structTerm("a", atomTerm("a"), atomTerm("a")), structTerm("a", structTerm("a", atomTerm("a"))),
		structTerm("a", atomTerm("a"), atomTerm("a"), atomTerm("a"), atomTerm("a"), atomTerm("a")),
		chainTerm(40, atomTerm("a")), chainTerm(40, atomTerm("b")), wideTerm(400, atomTerm("a")), wideTerm(400, atomTerm("b")),
	}
	for i, x := range plain {
		for j, y := range plain {
			if i == j {
				wantUnified(t, impl.BindsNew(2), x, deepCopy(y))
			} else {
				wantNotUnified(t, impl.BindsNew(2), x, y)
			}
		}
	}
}

func TestUnifyANameInItself(t *testing.T) {
	f0 := structTerm("f", varTerm(0))
	wantNeverUnified(t, impl.BindsNew(2), varTerm(0), f0)
	wantNeverUnified(t, impl.BindsNew(2), varTerm(0), structTerm("f", atomTerm("a"), structTerm("g", varTerm(1), f0)))
	wantNeverUnified(t, bindsOf(3, bound{1, f0}), varTerm(0), structTerm("g", varTerm(1)))
	wantNeverUnified(t, bindsOf(3, bound{1, f0}), varTerm(0), varTerm(1))
	wantNeverUnified(t, bindsOf(3, bound{1, varTerm(2)}, bound{2, f0}), varTerm(0), structTerm("g", varTerm(1)))
	wantNeverUnified(t, bindsOf(3, bound{2, varTerm(0)}), varTerm(2), structTerm("g", varTerm(2)))
	wantNeverUnified(t, bindsOf(3, bound{2, varTerm(0)}), varTerm(0), structTerm("g", varTerm(2)))
	wantNeverUnified(t, impl.BindsNew(2), structTerm("f", varTerm(0), varTerm(1)), structTerm("f", varTerm(1), f0))
	wantNeverUnified(t, impl.BindsNew(2), structTerm("f", varTerm(0), varTerm(1)), structTerm("f", structTerm("g", varTerm(1)), structTerm("g", varTerm(0))))
	// It has the name only where it is not filled.
	wantUnifiedBoth(t, bindsOf(2, bound{1, atomTerm("a")}), varTerm(0), structTerm("f", varTerm(1)), bound{0, structTerm("f", varTerm(1))})
}

func TestUnifyNamesBeyondTheList(t *testing.T) {
	a := atomTerm("a")
	b := bindsOf(2, bound{1, a})
	for _, n := range []int{2, 3, 5000, 99999} {
		wantUnified(t, b, varTerm(n), varTerm(n))
		wantUnified(t, impl.Binds{}, varTerm(n), varTerm(n))
		wantUnified(t, b, structTerm("f", varTerm(n), a), structTerm("f", varTerm(n), a))
		for _, other := range []impl.Term{a, varTerm(0), varTerm(1), varTerm(n - 1), structTerm("f", a)} {
			wantNeverUnified(t, b, varTerm(n), other)
			wantNeverUnified(t, impl.Binds{}, varTerm(n), other)
		}
		wantUnifiedBoth(t, b, varTerm(0), structTerm("f", varTerm(n)), bound{0, structTerm("f", varTerm(n))})
		wantUnifiedBoth(t, b, structTerm("f", varTerm(0), varTerm(n)), structTerm("f", a, varTerm(n)), bound{0, a})
		wantNeverUnified(t, b, structTerm("f", varTerm(0), varTerm(n)), structTerm("f", a, a))
	}
	wantUnifiedBoth(t, impl.BindsNew(3), varTerm(2), a, bound{2, a})
	wantNeverUnified(t, impl.BindsNew(0), varTerm(0), a)
}

// Names below 0 come from the list only, since they are not right.
func TestUnifyNamesBelowNought(t *testing.T) {
	for _, n := range []int{-1, -2, math.MinInt} {
		b := bindsOf(4, bound{0, varTerm(n)}, bound{1, varTerm(n)})
		wantNotUnified(t, b, varTerm(n), varTerm(n))
		wantNeverUnified(t, b, varTerm(0), atomTerm("a"))
		wantNeverUnified(t, b, varTerm(0), varTerm(2))
		wantNeverUnified(t, b, varTerm(0), structTerm("f", varTerm(2)))
		wantNeverUnified(t, b, varTerm(2), structTerm("f", varTerm(0)))
		wantUnifiedBoth(t, b, varTerm(0), varTerm(1))
	}
}

func TestUnifyGoesFromLeftToRight(t *testing.T) {
	a, c := atomTerm("a"), atomTerm("c")
	b := impl.BindsNew(6)
	f := func(kids ...impl.Term) impl.Term { return structTerm("f", kids...) }
	v := varTerm
	wantUnified(t, b, f(v(0), v(0)), f(a, a), bound{0, a})
	wantNeverUnified(t, b, f(v(0), v(0)), f(a, c))
	wantNeverUnified(t, b, f(v(0), v(1), v(0)), f(a, c, v(1)))
	wantUnifiedBoth(t, b, f(v(0), v(1), v(0)), f(a, v(2), v(2)), bound{0, a}, bound{2, v(1)}, bound{1, a})
	wantUnified(t, b, f(v(0), v(1)), f(v(1), a), bound{1, v(0)}, bound{0, a})
	wantUnified(t, b, f(v(1), v(0)), f(a, v(1)), bound{1, a}, bound{0, a})
	wantUnified(t, b, f(v(2), v(1), v(0)), f(v(1), v(0), a), bound{2, v(1)}, bound{1, v(0)}, bound{0, a})
	wantUnified(t, b, f(v(1), v(0), v(2)), f(v(2), v(2), v(3)), bound{2, v(1)}, bound{1, v(0)}, bound{3, v(0)})
	wantUnified(t, b, f(f(v(0)), v(0)), f(v(1), a), bound{1, f(v(0))}, bound{0, a})
	// The kids of the first pair come ahead of the second pair.
	wantUnified(t, b, f(f(v(0), v(1)), v(1)), f(f(a, v(2)), v(0)), bound{0, a}, bound{2, v(1)}, bound{1, a})
	wantUnified(t, b, f(f(v(3)), v(3)), f(f(v(2)), a), bound{3, v(2)}, bound{2, a})
	wantUnified(t, b, f(v(3), f(v(3))), f(a, f(v(2))), bound{3, a}, bound{2, a})
}

// A pair that fails leaves nothing of the pairs ahead of it.
func TestUnifyLeavesNothingBehindWhatFails(t *testing.T) {
	a := atomTerm("a")
	b := bindsOf(6, bound{5, structTerm("g", varTerm(4))})
	x := structTerm("f", varTerm(0), varTerm(1), varTerm(5), varTerm(2), a)
	y := structTerm("f", a, varTerm(0), structTerm("g", a), structTerm("h", varTerm(3)), a)
	wantUnified(t, b, x, y, bound{0, a}, bound{1, a}, bound{4, a}, bound{2, structTerm("h", varTerm(3))})
	for _, last := range []impl.Term{atomTerm("b"), intTerm(1), structTerm("a", a)} {
		y.Kids[4] = last
		wantNeverUnified(t, b, x, y)
	}
	wantNeverUnified(t, b, structTerm("f", varTerm(0), a), structTerm("f", a, varTerm(6)))
}

func TestUnifyOfWhatIsNotRight(t *testing.T) {
	b := bindsOf(12, bound{1, atomTerm("a")}, bound{2, varTerm(0)})
	for _, odd := range append(oddTerms(), deepOdds()...) {
		wantNotUnified(t, b, odd, odd)
		for _, other := range []impl.Term{varTerm(0), varTerm(1), atomTerm("a"), structTerm("f", varTerm(3))} {
			wantNeverUnified(t, b, odd, other)
		}
	}
	for _, great := range greatTerms() {
		wantNotUnified(t, b, great, great)
		wantNeverUnified(t, b, great, varTerm(0))
	}
	// TmVar 1 stands for what is right, but this is none of its kind.
	odd := impl.Term{Kind: impl.TmVar, Num: 1, Name: "X"}
	wantNeverUnified(t, b, odd, atomTerm("a"))
}

// What stands in the list may be not right, too.
func TestUnifyOfOddLists(t *testing.T) {
	a := atomTerm("a")
	for _, odd := range append(oddTerms(), deepOdds()...) {
		if odd.Kind == 0 || odd.Kind == impl.TmVar {
			continue
		}
		b := bindsOf(4, bound{0, odd}, bound{3, varTerm(0)})
		wantNeverUnified(t, b, varTerm(0), varTerm(1))
		wantNeverUnified(t, b, varTerm(1), structTerm("f", varTerm(3)))
		wantNeverUnified(t, b, varTerm(3), a)
		wantNeverUnified(t, b, varTerm(3), structTerm("f", a))
		wantUnifiedBoth(t, b, varTerm(1), varTerm(2), bound{2, varTerm(1)})
		wantUnifiedBoth(t, b, structTerm("f", varTerm(1)), structTerm("f", a), bound{1, a})
	}
	for _, kind := range []int{-1, 5, math.MaxInt} {
		none := impl.Term{Kind: kind, Name: "f", Kids: []impl.Term{a}}
		wantNeverUnified(t, bindsOf(2, bound{0, none}, bound{1, none}), varTerm(0), varTerm(1))
	}
	nothing := impl.Term{Name: "a", Num: 3, Kids: []impl.Term{a}}
	wantUnifiedBoth(t, bindsOf(2, bound{0, nothing}, bound{1, nothing}), varTerm(0), a, bound{0, a})
	wantNeverUnified(t, bindsOf(2, bound{0, nothing}, bound{1, nothing}), varTerm(0), structTerm("f", varTerm(0)))
	odd := impl.Term{Kind: impl.TmVar, Num: 3, Name: "X"}
	b := bindsOf(4, bound{0, odd})
	wantUnifiedBoth(t, b, varTerm(0), a, bound{3, a})
	wantUnified(t, b, varTerm(0), varTerm(0))
	wantNeverUnified(t, b, varTerm(0), varTerm(3))
	wantNeverUnified(t, b, varTerm(0), structTerm("f", varTerm(0)))
}

func TestUnifyOfGreatLists(t *testing.T) {
	for i, great := range greatTerms() {
		b := bindsOf(3, bound{0, great})
		for _, y := range []impl.Term{varTerm(2), atomTerm("a"), structTerm("f", atomTerm("a"))} {
			if got, ok := impl.Unify(b, varTerm(0), y); ok || got.List[2].Kind != 0 {
				t.Errorf("Unify of what stands for great term %d and %s: %t", i, shown(y), ok)
			}
		}
		got, ok := impl.Unify(b, varTerm(2), atomTerm("a"))
		if !ok || !impl.SameTerm(got.List[0], great) || !equalTerms(got.List[2], atomTerm("a")) {
			t.Errorf("Unify beside great term %d: %t", i, ok)
		}
		got, ok = impl.Unify(b, atomTerm("b"), atomTerm("a"))
		if ok || !impl.SameTerm(got.List[0], great) || got.List[2].Kind != 0 {
			t.Errorf("Unify that fails beside great term %d: %t", i, ok)
		}
	}
}

// Each number may stand for more terms than can be copied one by one.
func TestUnifyOfListsFullOfGreatTerms(t *testing.T) {
	b := bindsOf(1000)
	great := doubledTerm(200, varTerm(1))
	for i := range b.List {
		b.List[i] = great
	}
	b.List[7] = impl.Term{}
	got, ok := impl.Unify(b, varTerm(7), atomTerm("a"))
	if !ok || !equalTerms(got.List[7], atomTerm("a")) || !impl.SameTerm(got.List[0], great) || !impl.SameTerm(got.List[999], great) {
		t.Errorf("Unify beside many great terms: %t", ok)
	}
}

func TestUnifyOfWhatIsNotRightWhenFilled(t *testing.T) {
	a := atomTerm("a")
	for _, deep := range []int{1, 20, 38, 39, 40} {
		b := bindsOf(3, bound{1, chainTerm(deep, a)})
		if term := chainTerm(41-deep, varTerm(1)); deep < 40 {
			wantUnifiedBoth(t, b, varTerm(0), term, bound{0, term})
		}
		wantNeverUnified(t, b, varTerm(0), chainTerm(42-deep, varTerm(1)))
	}
	for _, size := range []int{2, 100, 398, 399} {
		b := bindsOf(3, bound{1, wideTerm(size, a)})
		fits, large := wideTerm(401-size, varTerm(1)), wideTerm(402-size, varTerm(1))
		wantUnifiedBoth(t, b, varTerm(0), fits, bound{0, fits})
		wantNeverUnified(t, b, varTerm(0), large)
		wantNeverUnified(t, b, structTerm("f", varTerm(2), varTerm(0)), structTerm("f", a, large))
	}
	b := bindsOf(3, bound{1, structTerm("f", varTerm(1))})
	wantNeverUnified(t, b, varTerm(0), varTerm(1))
	wantNeverUnified(t, b, varTerm(0), structTerm("g", varTerm(1)))
	wantNeverUnified(t, b, varTerm(1), a)
}

// The pairs of both lists below are the first one, and as many as the terms have.
func TestUnifyLooksAtTwoThousandPairs(t *testing.T) {
	a := atomTerm("a")
	with := func(size int, last impl.Term) (impl.Binds, impl.Term, impl.Term) {
		b := bindsOf(6, bound{0, wideTerm(400, a)}, bound{1, wideTerm(400, a)}, bound{2, wideTerm(size, a)}, bound{3, wideTerm(size, last)})
		return b, structTerm("f", varTerm(0), varTerm(0), varTerm(0), varTerm(0), varTerm(2)), structTerm("f", varTerm(1), varTerm(1), varTerm(1), varTerm(1), varTerm(3))
	}
	for _, size := range []int{2, 398, 399} {
		b, x, y := with(size, a)
		wantUnifiedBoth(t, b, x, y)
		b, x, y = with(size, varTerm(5))
		wantUnifiedBoth(t, b, x, y, bound{5, a})
		b, x, y = with(size, atomTerm("b"))
		wantNeverUnified(t, b, x, y)
	}
	for _, last := range []impl.Term{a, varTerm(5)} {
		b, x, y := with(400, last)
		wantNeverUnified(t, b, x, y)
	}
	wantUnified(t, impl.BindsNew(1), wideTerm(400, a), wideTerm(400, a))
}

// A name that is the same on both sides is walked first, and may lead into itself.
func TestUnifyComesToAnEnd(t *testing.T) {
	in := structTerm("f", varTerm(0))
	wantNotUnified(t, bindsOf(1, bound{0, in}), varTerm(0), varTerm(0))
	wantNeverUnified(t, bindsOf(2, bound{0, in}, bound{1, structTerm("f", varTerm(1))}), varTerm(0), varTerm(1))
	wide := structTerm("f", varTerm(0), varTerm(0), varTerm(0), varTerm(0), varTerm(0))
	wantNotUnified(t, bindsOf(1, bound{0, wide}), varTerm(0), varTerm(0))
	doubling := impl.Binds{List: []impl.Term{{}}}
	for i := range 60 {
		doubling.List = append(doubling.List, structTerm("f", varTerm(i), varTerm(i)))
	}
	wantUnified(t, doubling, varTerm(9), varTerm(9))
	wantUnified(t, doubling, structTerm("f", varTerm(8), varTerm(8)), varTerm(9))
	wantNotUnified(t, doubling, varTerm(10), varTerm(10))
	wantNotUnified(t, doubling, varTerm(60), varTerm(60))
}

// A row longer than 5000 is looked at where Walked stops, whatever comes behind.
func TestUnifyOfLongRows(t *testing.T) {
	a, c := atomTerm("a"), atomTerm("c")
	for _, many := range []int{2, 4999, 5000, 5001, 5002, 10000, 10001} {
		b := rowBinds(many, impl.Term{})
		stop := min(many-1, 5000)
		wantUnifiedBoth(t, b, varTerm(0), a, bound{stop, a})
		wantUnifiedBoth(t, b, structTerm("f", varTerm(0)), structTerm("f", a), bound{stop, a})
		after, _ := impl.Unify(b, varTerm(0), a)
		wantFilled(t, after, varTerm(0), a)
		wantUnifiedBoth(t, after, varTerm(0), a)
		if many <= 5000 {
			wantNeverUnified(t, after, varTerm(0), c)
		} else {
			wantUnifiedBoth(t, after, varTerm(0), c, bound{5000, c})
		}
	}
}

func TestUnifyOfLongRowsThatEndInATerm(t *testing.T) {
	a, c := atomTerm("a"), atomTerm("c")
	for _, many := range []int{2, 4999, 5000} {
		wantUnifiedBoth(t, rowBinds(many, a), varTerm(0), a)
		wantNeverUnified(t, rowBinds(many, a), varTerm(0), c)
	}
	for _, many := range []int{5001, 5002, 10000, 10001, 20000} {
		b := rowBinds(many, a)
		for _, term := range []impl.Term{a, c, intTerm(-7), structTerm("f", c), structTerm("f", varTerm(many-1))} {
			wantUnifiedBoth(t, b, varTerm(0), term, bound{5000, term})
		}
		// One walk from the end of the row still comes to it.
		wantUnifiedBoth(t, b, varTerm(many-5000), a)
		wantNeverUnified(t, b, varTerm(many-5000), c)
		wantNeverUnified(t, b, structTerm("f", varTerm(0), a), structTerm("f", c, c))
	}
	// Of two TmVars at which it stops, the greater one stands for the lesser one.
	wantUnifiedBoth(t, rowBinds(5002, a), varTerm(0), varTerm(1), bound{5001, varTerm(5000)})
	wantUnified(t, rowBinds(5002, a), varTerm(0), varTerm(0))
	// The greater one is in the lesser one, when that is Filled.
	wantNeverUnified(t, rowBinds(5002, impl.Term{}), varTerm(0), varTerm(1))
}

// A TmVar that is Walked round a ring is one that may stand for another term, like one that stands for nothing.
func TestUnifyOfRings(t *testing.T) {
	a, c, seven := atomTerm("a"), atomTerm("c"), intTerm(-7)
	for _, round := range []int{1, 2, 3, 4, 5, 7, 4999, 5000, 5001} {
		b := ringBinds(round, 2)
		stop, free := 5000%round, varTerm(round)
		wantUnified(t, b, varTerm(0), varTerm(0))
		for _, term := range []impl.Term{a, seven, structTerm("f", a), structTerm("f", free)} {
			wantUnifiedBoth(t, b, varTerm(0), term, bound{stop, term})
		}
		wantUnifiedBoth(t, b, varTerm(0), free, bound{round, varTerm(stop)})
		wantUnifiedBoth(t, b, free, structTerm("f", varTerm(0)), bound{round, structTerm("f", varTerm(0))})
		wantNeverUnified(t, b, varTerm(0), structTerm("f", varTerm(0)))
		wantNeverUnified(t, b, varTerm(0), structTerm("f", a, structTerm("g", varTerm(0))))
		wantNeverUnified(t, b, varTerm(0), varTerm(round+2))
		wantNeverUnified(t, b, structTerm("f", varTerm(0), free, a), structTerm("f", seven, a, c))
		wantUnifiedBoth(t, b, structTerm("f", varTerm(0), free), structTerm("f", a, c), bound{stop, a}, bound{round, c})
		if round <= 5000 {
			// The first pair opens the ring, and the second one is Walked to what it ends in.
			wantUnifiedBoth(t, b, structTerm("f", varTerm(0), varTerm(0)), structTerm("f", a, a), bound{stop, a})
			wantNeverUnified(t, b, structTerm("f", varTerm(0), varTerm(0)), structTerm("f", a, c))
		}
	}
}

func TestUnifyTwoNamesWhereRingsAre(t *testing.T) {
	seven := intTerm(-7)
	itself := bindsOf(4, bound{2, varTerm(2)})
	wantUnifiedBoth(t, itself, seven, varTerm(2), bound{2, seven})
	wantUnifiedBoth(t, itself, varTerm(0), varTerm(2), bound{2, varTerm(0)})
	wantUnifiedBoth(t, itself, varTerm(3), varTerm(2), bound{3, varTerm(2)})
	wantUnified(t, itself, varTerm(2), varTerm(2))
	wantUnifiedBoth(t, bindsOf(2, bound{1, varTerm(1)}), varTerm(0), varTerm(1), bound{1, varTerm(0)})
	wantUnifiedBoth(t, bindsOf(2, bound{0, varTerm(0)}, bound{1, varTerm(1)}), varTerm(0), varTerm(1), bound{1, varTerm(0)})
	// Two of one ring: in those of 2 and of 4 a TmVar is Walked to itself, in that of 3 to the second next one.
	wantUnifiedBoth(t, ringBinds(2, 0), varTerm(0), varTerm(1))
	wantUnifiedBoth(t, ringBinds(4, 0), varTerm(0), varTerm(1), bound{1, varTerm(0)})
	wantUnifiedBoth(t, ringBinds(4, 0), varTerm(1), varTerm(3), bound{3, varTerm(1)})
	wantUnifiedBoth(t, ringBinds(3, 0), varTerm(0), varTerm(2), bound{2, varTerm(1)})
	wantUnifiedBoth(t, ringBinds(3, 0), varTerm(1), varTerm(2), bound{1, varTerm(0)})
	// TmVars 2 and 0 are looked at, and 0 is 2 when it is Filled.
	wantNeverUnified(t, ringBinds(3, 0), varTerm(0), varTerm(1))
	// A row that leads into a ring.
	wantUnifiedBoth(t, bindsOf(4, bound{3, varTerm(0)}, bound{0, varTerm(1)}, bound{1, varTerm(0)}), varTerm(3), seven, bound{1, seven})
}

// wantMadeTheSame holds what Unify answers against the promise; the list has no ring in it.
func wantMadeTheSame(t *testing.T, b impl.Binds, x, y impl.Term) (impl.Binds, bool) {
	t.Helper()
	before := copyBinds(b)
	after, ok := impl.Unify(b, x, y)
	told := fmt.Sprintf("Unify(%s, %s, %s) = %s, %t", shownBinds(b), shown(x), shown(y), shownBinds(after), ok)
	if !equalBinds(b, before) {
		t.Errorf("%s: the list asked with is changed", told)
	}
	if !ok && !equalBinds(after, before) {
		t.Errorf("%s: not as it was", told)
	}
	if !ok {
		return after, false
	}
	one, right := impl.Filled(after, x)
	other, too := impl.Filled(after, y)
	if right != too || !equalTerms(one, other) {
		t.Errorf("%s: filled %s (%t) and %s (%t)", told, shown(one), right, shown(other), too)
	}
	if len(after.List) != len(before.List) {
		t.Errorf("%s: of another length", told)
	}
	for i, stood := range before.List {
		if stood.Kind != 0 && !equalTerms(stood, after.List[i]) {
			t.Errorf("%s: number %d does not stand for what it stood for", told, i)
		}
	}
	return after, true
}

// drawn is a term drawn at random, with the TmVars of numbers below many.
func drawn(r *rand.Rand, many, deep int) impl.Term {
	switch k := r.Intn(10); {
	case k < 4:
		return varTerm(r.Intn(many))
	case k < 6 || deep <= 1:
		return []impl.Term{atomTerm("a"), atomTerm("b"), intTerm(1)}[r.Intn(3)]
	case k < 8:
		return structTerm("f", drawn(r, many, deep-1))
	default:
		return structTerm("g", drawn(r, many, deep-1), drawn(r, many, deep-1))
	}
}

// nextByRule is what a TmVar of the list stands for.
func nextByRule(list []impl.Term, t impl.Term) (impl.Term, bool) {
	if t.Kind != impl.TmVar || t.Num < 0 || t.Num >= len(list) || list[t.Num].Kind == 0 {
		return t, false
	}
	return list[t.Num], true
}

// walkByRule is the document's rule for Walked, and tells whether nothing more comes behind.
func walkByRule(list []impl.Term, t impl.Term, most int) (impl.Term, bool) {
	for range most {
		next, more := nextByRule(list, t)
		if !more {
			return t, true
		}
		t = next
	}
	_, more := nextByRule(list, t)
	return t, !more
}

// fillByRule is the document's rule for Filled; it counts what it makes. What has no end, in a ring, is Walked once.
func fillByRule(list []impl.Term, t impl.Term, deep int, made *int) (impl.Term, bool) {
	once, done := walkByRule(list, t, 5000)
	if end, ends := walkByRule(list, once, len(list)); !done && ends {
		once = end
	}
	t = once
	*made++
	if deep > impl.MaxDeep || *made > impl.MaxSize {
		return impl.Term{}, false
	}
	var kids []impl.Term
	for _, k := range t.Kids {
		kid, ok := fillByRule(list, k, deep+1, made)
		if !ok {
			return impl.Term{}, false
		}
		kids = append(kids, kid)
	}
	return impl.Term{Kind: t.Kind, Name: t.Name, Num: t.Num, Kids: kids}, true
}

// unifyByRule is the document's rule for Unify; it writes into the list.
func unifyByRule(list []impl.Term, x, y impl.Term, pairs *int) bool {
	if *pairs++; *pairs > 2000 {
		return false
	}
	x, _ = walkByRule(list, x, 5000)
	y, _ = walkByRule(list, y, 5000)
	if x.Kind == impl.TmVar && y.Kind == impl.TmVar && x.Num == y.Num {
		return true
	}
	if x.Kind != impl.TmVar || y.Kind == impl.TmVar && y.Num > x.Num {
		x, y = y, x
	}
	if x.Kind == impl.TmVar {
		made := 0
		whole, ok := fillByRule(list, y, 1, &made)
		if !ok || x.Num >= len(list) || slices.Contains(impl.VarsOf(whole), x.Num) {
			return false
		}
		list[x.Num] = y
		return true
	}
	if x.Kind != y.Kind || x.Name != y.Name || x.Num != y.Num || len(x.Kids) != len(y.Kids) {
		return false
	}
	// Which of both was the first one is not to be seen in what follows.
	for i := range x.Kids {
		if !unifyByRule(list, x.Kids[i], y.Kids[i], pairs) {
			return false
		}
	}
	return true
}

// ringless tells whether no number of the list leads back to itself from TmVar to TmVar.
func ringless(b impl.Binds) bool {
	for i := range b.List {
		at := varTerm(i)
		for range len(b.List) + 1 {
			if at.Kind == impl.TmVar && at.Num < len(b.List) {
				at = b.List[at.Num]
			}
		}
		if at.Kind == impl.TmVar && at.Num < len(b.List) {
			return false
		}
	}
	return true
}

// drawnBinds has some numbers that stand for terms; they may stand in themselves, and in rings.
func drawnBinds(r *rand.Rand, many int) impl.Binds {
	b := impl.Binds{List: make([]impl.Term, many)}
	for i := range b.List {
		if r.Intn(2) == 0 {
			b.List[i] = drawn(r, many+1, 2)
		}
	}
	return b
}

func TestFilledIsTheDocumentsRule(t *testing.T) {
	r := rand.New(rand.NewSource(4))
	right, wrong, rings := 0, 0, 0
	for range 20000 {
		b := drawnBinds(r, 1+r.Intn(7))
		term := drawn(r, len(b.List)+2, 4)
		if !ringless(b) {
			rings++
		}
		made := 0
		if want, ok := fillByRule(b.List, term, 1, &made); ok {
			wantFilled(t, b, term, want)
			right++
		} else {
			wantNotFilled(t, b, term)
			wrong++
		}
	}
	if right < 1000 || wrong < 200 || rings < 1000 {
		t.Errorf("too few are drawn: %d that are right, %d that are not, %d with rings", right, wrong, rings)
	}
}

// wantUnifiedByRule holds what Unify answers against the document's rule, and tells whether it can be.
func wantUnifiedByRule(t *testing.T, b impl.Binds, x, y impl.Term) bool {
	t.Helper()
	want := copyBinds(b)
	pairs := 0
	after, ok := impl.Unify(b, x, y)
	canBe := unifyByRule(want.List, x, y, &pairs)
	if !canBe {
		want = b
	}
	if canBe != ok || !equalBinds(after, want) {
		t.Fatalf("Unify(%s, %s, %s) = %s, %t; want %s, %t", shownBinds(b), shown(x), shown(y), shownBinds(after), ok, shownBinds(want), canBe)
	}
	return ok
}

func TestUnifyIsTheDocumentsRule(t *testing.T) {
	r := rand.New(rand.NewSource(5))
	// How many can't be and can, without rings and with them.
	var drawnSo [2][2]int
	for range 40000 {
		b := drawnBinds(r, 1+r.Intn(7))
		x, y := drawn(r, len(b.List)+1, 4), drawn(r, len(b.List)+1, 4)
		ring, can := 1, 0
		if ringless(b) {
			ring = 0
			wantMadeTheSame(t, b, x, y)
		}
		if wantUnifiedByRule(t, b, x, y) {
			can = 1
		}
		drawnSo[ring][can]++
	}
	for _, many := range []int{drawnSo[0][0], drawnSo[0][1], drawnSo[1][0], drawnSo[1][1]} {
		if many < 1000 {
			t.Errorf("too few are drawn: %v", drawnSo)
		}
	}
}

// drawnRow is a row longer than one walk; what its last numbers, and some behind it, stand for is drawn.
func drawnRow(r *rand.Rand) impl.Binds {
	b := rowBinds(4997+r.Intn(6), impl.Term{})
	from := len(b.List) - 1 - r.Intn(3)
	b.List = append(b.List, make([]impl.Term, 1+r.Intn(3))...)
	for i := from; i < len(b.List); i++ {
		if r.Intn(3) > 0 {
			b.List[i] = nearRow(r, drawn(r, 8, 2), len(b.List))
		}
	}
	return b
}

// nearRow is the term with some of its TmVars at the end of a list of that length, and not at its beginning.
func nearRow(r *rand.Rand, t impl.Term, length int) impl.Term {
	t = deepCopy(t)
	if t.Kind == impl.TmVar && r.Intn(2) == 0 {
		t.Num = length - t.Num
	}
	for i, k := range t.Kids {
		t.Kids[i] = nearRow(r, k, length)
	}
	return t
}

func TestUnifyOfLongRowsIsTheDocumentsRule(t *testing.T) {
	r := rand.New(rand.NewSource(8))
	can, cannot := 0, 0
	for range 400 {
		b := drawnRow(r)
		x, y := nearRow(r, drawn(r, 6, 3), len(b.List)), nearRow(r, drawn(r, 6, 3), len(b.List))
		if wantUnifiedByRule(t, b, x, y) {
			can++
		} else {
			cannot++
		}
	}
	if can < 80 || cannot < 80 {
		t.Errorf("too few are drawn: %d that can be unified, %d that can't", can, cannot)
	}
}

// choices are terms without the TmVars that are drawn; TmVar 50 is like one more name.
func choices() []impl.Term {
	a, b := atomTerm("a"), atomTerm("b")
	all := []impl.Term{a, b, intTerm(1), varTerm(50)}
	for _, t := range slices.Clone(all) {
		all = append(all, structTerm("f", t))
	}
	return append(all, structTerm("g", a, b), structTerm("g", a, a), structTerm("g", varTerm(50), structTerm("f", a)), structTerm("f", structTerm("f", a)), structTerm("f", structTerm("g", a, b)))
}

// put is the term with the choices for its TmVars.
func put(t impl.Term, chosen []impl.Term) impl.Term {
	if t.Kind == impl.TmVar && t.Num < len(chosen) {
		return chosen[t.Num]
	}
	var kids []impl.Term
	for _, k := range t.Kids {
		kids = append(kids, put(k, chosen))
	}
	t.Kids = kids
	return t
}

// holds tells whether the choices have in them what stands in the list.
func holds(b impl.Binds, chosen []impl.Term) bool {
	for i, t := range b.List {
		if t.Kind != 0 && !equalTerms(chosen[i], put(t, chosen)) {
			return false
		}
	}
	return true
}

// Of all choices, those that make both the same and have in them what stood before are those that have what stands now: no more is asked of them than that, and no less.
func TestUnifyAsksForAsLittleAsMayBe(t *testing.T) {
	r := rand.New(rand.NewSource(6))
	all := choices()
	met := 0
	for range 250 {
		b := impl.BindsNew(3)
		for range 3 {
			x, y := drawn(r, 3, 3), drawn(r, 3, 3)
			after, ok := wantMadeTheSame(t, b, x, y)
			for i := range len(all) * len(all) * len(all) {
				chosen := []impl.Term{all[i%len(all)], all[i/len(all)%len(all)], all[i/len(all)/len(all)]}
				same := holds(b, chosen) && equalTerms(put(x, chosen), put(y, chosen))
				if same != (ok && holds(after, chosen)) {
					t.Fatalf("Unify(%s, %s, %s) = %s, %t; for %s %s %s it is %t that both are the same", shownBinds(b), shown(x), shown(y), shownBinds(after), ok, shown(chosen[0]), shown(chosen[1]), shown(chosen[2]), same)
				}
				if same {
					met++
				}
			}
			b = after
		}
	}
	if met < 1000 {
		t.Errorf("only %d choices make both the same", met)
	}
}

func TestWalkedAnswersNewMemory(t *testing.T) {
	kids := []impl.Term{structTerm("g", atomTerm("a")), varTerm(1)}
	b := bindsOf(2, bound{0, structTerm("f", kids...)})
	for _, term := range []impl.Term{varTerm(0), b.List[0], {Kind: 7, Kids: kids}} {
		before, asked := copyBinds(b), deepCopy(term)
		got := impl.Walked(b, term)
		answer := deepCopy(got)
		got.Kids[0].Kids[0].Name, got.Kids[1].Num = "z", 9
		if !equalBinds(b, before) || !equalTerms(term, asked) {
			t.Errorf("what Walked answers for %s shares lists with what was asked", shown(term))
		}
		got = impl.Walked(b, term)
		kids[0].Kids[0].Name, kids[1].Num = "y", 8
		if !equalTerms(got, answer) {
			t.Errorf("what Walked answers for %s changes with what was asked", shown(term))
		}
		kids[0].Kids[0].Name, kids[1].Num = "a", 1
	}
}

func TestFilledAnswersNewMemory(t *testing.T) {
	shared := []impl.Term{atomTerm("a"), varTerm(1)}
	b := bindsOf(3, bound{0, structTerm("f", shared...)}, bound{1, structTerm("g", atomTerm("c"))})
	term := structTerm("h", varTerm(0), structTerm("f", shared...), varTerm(0), varTerm(1))
	before, asked := copyBinds(b), deepCopy(term)
	got, _ := impl.Filled(b, term)
	answer := deepCopy(got)
	met := map[*impl.Term]bool{}
	for _, list := range listsIn(got, 100) {
		if met[&list[0]] {
			t.Error("two lists of what Filled answers share memory")
		}
		met[&list[0]] = true
		for i := range list {
			list[i].Name = "z"
		}
	}
	if !equalBinds(b, before) || !equalTerms(term, asked) {
		t.Error("what Filled answers shares lists with what was asked")
	}
	got, _ = impl.Filled(b, term)
	shared[0].Name, b.List[1].Kids[0].Name, term.Kids[3] = "y", "y", atomTerm("y")
	if !equalTerms(got, answer) {
		t.Error("what Filled answers changes with what was asked")
	}
}

func TestUnifyAnswersNewMemory(t *testing.T) {
	for _, last := range []string{"a", "b"} {
		shared := []impl.Term{atomTerm("a"), structTerm("g", varTerm(4))}
		odd := impl.Term{Kind: 9, Kids: shared}
		nothing := impl.Term{Kids: shared}
		b := bindsOf(8, bound{2, structTerm("f", shared...)}, bound{3, structTerm("f", shared...)}, bound{5, odd}, bound{6, odd}, bound{7, nothing})
		x := structTerm("k", varTerm(0), varTerm(1), varTerm(4), atomTerm("a"))
		y := structTerm("k", structTerm("f", shared...), structTerm("f", shared...), structTerm("m", intTerm(1)), atomTerm(last))
		y.Kids[0].Kids, y.Kids[1].Kids = shared[:1:1], shared[:1:1]
		before, one, other := copyBinds(b), deepCopy(x), deepCopy(y)
		got, ok := impl.Unify(b, x, y)
		if ok != (last == "a") {
			t.Fatalf("Unify up to %s: %t", last, ok)
		}
		answer := copyBinds(got)
		met := map[*impl.Term]bool{}
		for _, list := range append(listsIn(structTerm("w", got.List...), 100), got.List) {
			if len(list) > 0 && met[&list[0]] && &list[0] != &got.List[0] {
				t.Error("two lists of what Unify answers share memory")
			}
			met[&list[0]] = true
			for i := range list {
				list[i].Name, list[i].Num = "z", 9
			}
		}
		if !equalBinds(b, before) || !equalTerms(x, one) || !equalTerms(y, other) {
			t.Error("what Unify answers shares lists with what was asked")
		}
		got, _ = impl.Unify(b, x, y)
		shared[0].Name, shared[1].Kids[0].Num, y.Kids[2].Kids[0].Num = "y", 8, 8
		b.List[0], b.List[2] = atomTerm("y"), atomTerm("y")
		if !equalBinds(got, answer) {
			t.Error("what Unify answers changes with what was asked")
		}
	}
}

func TestUnifySharesNoListsOfRightTerms(t *testing.T) {
	b := bindsOf(600)
	wide := wideTerm(400, atomTerm("a"))
	for i := range b.List {
		b.List[i] = wide
	}
	got, _ := impl.Unify(b, atomTerm("a"), atomTerm("a"))
	met := map[*impl.Term]bool{}
	for _, list := range listsIn(structTerm("w", got.List...), 1000000) {
		if met[&list[0]] {
			t.Fatal("two lists of what Unify answers share memory")
		}
		met[&list[0]] = true
	}
}

func TestBindsAnswerNewNames(t *testing.T) {
	name, other := strings.Repeat("n", 12), strings.Repeat("m", 12)
	for _, term := range []impl.Term{atomTerm(name), structTerm(name, atomTerm(name)), structTerm("f", atomTerm(name), structTerm(name, intTerm(1)))} {
		b := bindsOf(3, bound{0, term}, bound{1, impl.Term{Kind: 8, Name: name}})
		filled, _ := impl.Filled(b, structTerm("f", varTerm(0), term))
		can, _ := impl.Unify(b, varTerm(2), term)
		cannot, _ := impl.Unify(b, atomTerm("a"), atomTerm(other))
		whole := structTerm("w", impl.Walked(b, varTerm(0)), impl.Walked(b, term), impl.Walked(b, varTerm(1)), filled, structTerm("w", can.List...), structTerm("w", cannot.List...))
		for _, list := range listsIn(whole, 1000) {
			for _, got := range list {
				if got.Name == name && shares(name, got.Name) {
					t.Errorf("a Name of %s is shared", shown(term))
				}
			}
		}
	}
}

// spareBinds has room behind its list, and behind each list of Kids in it, with terms in it.
func spareBinds(b impl.Binds) impl.Binds {
	return impl.Binds{List: withSpare(structTerm("w", b.List...)).Kids}
}

func TestBindsAreNotWrittenInto(t *testing.T) {
	r := rand.New(rand.NewSource(7))
	for range 3000 {
		b := drawnBinds(r, 1+r.Intn(6))
		x, y := drawn(r, len(b.List)+1, 4), drawn(r, len(b.List)+1, 4)
		asked, one, other := spareBinds(b), withSpare(x), withSpare(y)
		impl.Walked(asked, one)
		impl.Filled(asked, one)
		impl.Unify(asked, one, other)
		impl.Unify(asked, other, one)
		if !equalBinds(asked, b) || !equalTerms(one, x) || !equalTerms(other, y) {
			t.Fatalf("%s, %s or %s was written into", shownBinds(b), shown(x), shown(y))
		}
		if !spareUntouched(impl.Term{Kids: asked.List}) || !spareUntouched(one) || !spareUntouched(other) {
			t.Fatalf("the room behind %s, %s or %s was written into", shownBinds(b), shown(x), shown(y))
		}
	}
}
