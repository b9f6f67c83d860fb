package tests

import (
	"fmt"
	"slices"
	"testing"

	"loop.example/g00841/impl"
)

// pendant is a bundle of seven edges between 0 and 1 with one more vertex 2 at 1. Its genus is 6.
func pendant() impl.Graph {
	return graphOf(3, 0, 1, 0, 1, 0, 1, 0, 1, 0, 1, 0, 1, 0, 1, 1, 2)
}

// canonDivisors returns divisors of g: some of every kind, and some that the canonical divisor has beyond others, so that their residual divisors have small degrees.
func canonDivisors(g impl.Graph) [][]int {
	some := append(divisorsOf(g.N), poorDivisors(g.N)...)
	all := slices.Clone(some)
	for _, d := range some {
		if residual := minus(canonicalSlowly(g), d); within(residual) {
			all = append(all, residual)
		}
	}
	return all
}

// eachCanon calls check with valid divisors on many graphs, and with what tells the winnable ones on this graph.
func eachCanon(check func(g impl.Graph, d []int, won func([]int) bool)) {
	graphs := append(someGraphs(), pendant(), parallel(2), parallel(3), parallel(8), parallel(9), parallel(10), completeGraph(3))
	for _, g := range graphs {
		won := wonSlowly(g)
		for _, d := range canonDivisors(g) {
			check(g, d, won)
		}
	}
	for k, g := range goodGraphs() {
		if k%8 != 0 {
			continue
		}
		won := wonSlowly(g)
		for i, d := range canonDivisors(g) {
			if i%40 == k/8%40 {
				check(g, d, won)
			}
		}
	}
}

// canonRank returns the rank of a divisor of any degree. Above the degree of the canonical divisor, it is the degree minus the genus.
func canonRank(g impl.Graph, won func([]int) bool, d []int) int {
	degree, genus := impl.DegreeOf(d), impl.GenusOf(g)
	if degree > max(2*genus-2, -1) {
		return degree - genus
	}
	return rankSlowly(won, d)
}

// hasRank reports whether d has a rank that the program finds: no element is beyond 60 or -60, and the degree is at most 7.
func hasRank(d []int) bool {
	return within(d) && impl.DegreeOf(d) <= 7
}

func TestCanonicalOf(t *testing.T) {
	for _, c := range []struct {
		g    impl.Graph
		want []int
	}{
		{graphOf(1), []int{-2}}, {parallel(1), []int{-1, -1}}, {parallel(2), []int{0, 0}}, {parallel(12), []int{10, 10}},
		{graphOf(3, 0, 1, 0, 1, 0, 2, 1, 2), []int{1, 1, 0}}, {graphOf(3, 0, 1, 1, 2), []int{-1, 0, -1}}, {graphOf(3, 0, 2, 1, 2), []int{-1, -1, 0}},
		{completeGraph(3), []int{0, 0, 0}}, {completeGraph(4), []int{1, 1, 1, 1}}, {completeGraph(5), []int{2, 2, 2, 2, 2}},
		{graphOf(4, 0, 1, 0, 1, 1, 2, 2, 3, 2, 3), []int{0, 1, 1, 0}}, {pendant(), []int{5, 6, -1}},
		{graphOf(6, 0, 5, 1, 5, 2, 5, 3, 5, 4, 5), []int{-1, -1, -1, -1, -1, 3}}, {graphOf(6, 0, 1, 1, 2, 2, 3, 3, 4, 4, 5), []int{-1, 0, 0, 0, 0, -1}},
	} {
		if got := impl.CanonicalOf(c.g); !slices.Equal(got, c.want) {
			t.Errorf("CanonicalOf(%v) = %v, want %v", c.g, got, c.want)
		}
	}
}

// TestCanonicalIsExact compares the canonical divisor with its definition, and checks that its degree is 2 times the genus minus 2.
func TestCanonicalIsExact(t *testing.T) {
	for _, g := range append(someGraphs(), goodGraphs()...) {
		got := impl.CanonicalOf(g)
		if !slices.Equal(got, canonicalSlowly(g)) || impl.DegreeOf(got) != 2*impl.GenusOf(g)-2 {
			t.Fatalf("CanonicalOf(%v) = %v", g, got)
		}
	}
}

func TestCanonicalRejects(t *testing.T) {
	for name, g := range badGraphs() {
		if got := impl.CanonicalOf(g); len(got) != 0 {
			t.Errorf("%s: CanonicalOf(%v) = %v", name, g, got)
		}
	}
}

func TestResidualOf(t *testing.T) {
	fat := graphOf(3, 0, 1, 0, 1, 0, 2, 1, 2)
	for _, c := range []struct {
		g       impl.Graph
		d, want []int
	}{
		{fat, []int{2, 0, 0}, []int{-1, 1, 0}}, {fat, []int{0, 0, 0}, []int{1, 1, 0}}, {fat, []int{1, 1, 0}, []int{0, 0, 0}}, {fat, []int{3, -4, 5}, []int{-2, 5, -5}},
		{graphOf(1), []int{0}, []int{-2}}, {graphOf(1), []int{-2}, []int{0}}, {graphOf(1), []int{60}, []int{-62}}, {graphOf(1), []int{-60}, []int{58}},
		{fat, []int{60, 60, 60}, []int{-59, -59, -60}}, {fat, []int{-60, -60, -60}, []int{61, 61, 60}},
		{parallel(12), []int{-60, 60}, []int{70, -50}}, {parallel(1), []int{60, -60}, []int{-61, 59}}, {pendant(), []int{-60, -60, 60}, []int{65, 66, -61}},
	} {
		if got, ok := impl.ResidualOf(c.g, c.d); !ok || !slices.Equal(got, c.want) {
			t.Errorf("ResidualOf(%v, %v) = %v, %v, want %v", c.g, c.d, got, ok, c.want)
		}
	}
}

// TestResidualIsExact compares the residual divisor with its definition, and checks that its own residual divisor is the first one.
func TestResidualIsExact(t *testing.T) {
	beyond := 0
	eachDivisor(func(g impl.Graph, d []int) {
		got, ok := impl.ResidualOf(g, d)
		if !ok || !slices.Equal(got, minus(canonicalSlowly(g), d)) {
			t.Fatalf("ResidualOf(%v, %v) = %v, %v", g, d, got, ok)
		}
		back, ok := impl.ResidualOf(g, got)
		if ok != within(got) || ok && !slices.Equal(back, d) || !ok && len(back) != 0 {
			t.Fatalf("ResidualOf(%v, %v) = %v, %v", g, got, back, ok)
		}
		if !ok {
			beyond++
		}
	})
	if beyond < 20 {
		t.Errorf("only %d residual divisors are not valid", beyond)
	}
}

// canonCase is a divisor with what the functions of the chapter answer.
type canonCase struct {
	g impl.Graph
	d []int
	// rank and other are the ranks of d and of its residual divisor, if both says so.
	rank, other int
	both        bool
	special     bool
	// gap is the answer of CliffordGap, or -1 if it fails.
	gap int
	// calculated is the answer of RankFromResidual, or -2 if it fails.
	calculated int
}

func canonCases() []canonCase {
	fat := graphOf(3, 0, 1, 0, 1, 0, 2, 1, 2)
	joined := graphOf(4, 0, 1, 0, 1, 1, 2, 2, 3, 2, 3)
	heavy := pendant()
	return []canonCase{
		{fat, []int{0, 0, 0}, 0, 1, true, true, 0, 0}, {fat, []int{1, 1, 0}, 1, 0, true, true, 0, 1}, {fat, []int{0, 0, 2}, 1, 0, true, true, 0, 1},
		{fat, []int{1, 0, 0}, 0, 0, true, true, 1, 0}, {fat, []int{0, 0, 1}, 0, 0, true, true, 1, 0}, {fat, []int{0, 4, 0}, 2, -1, true, false, -1, 2},
		{fat, []int{1, 0, -1}, -1, 0, true, true, -1, -1}, {fat, []int{5, 0, -5}, 0, 1, true, true, 0, 0}, {fat, []int{0, 0, -1}, -1, 1, true, true, -1, -1},
		// The degree of d, then that of its residual divisor, is 7 or 8.
		{fat, []int{7, 0, 0}, 5, -1, true, false, -1, 5}, {fat, []int{8, 0, 0}, 0, 0, false, false, -1, 6}, {fat, []int{9, 0, 0}, 0, 0, false, false, -1, 7}, {fat, []int{30, 0, 0}, 0, 0, false, false, -1, 28},
		{fat, []int{-5, 0, 0}, -1, 5, true, true, -1, -1}, {fat, []int{-6, 0, 0}, 0, 0, false, true, -1, -2}, {fat, []int{-9, 0, 0}, 0, 0, false, true, -1, -2}, {fat, []int{60, 60, 60}, 0, 0, false, false, -1, 178}, {fat, []int{-60, -60, -60}, 0, 0, false, true, -1, -2},
		{joined, []int{0, 1, 1, 0}, 1, 0, true, true, 0, 1}, {joined, []int{0, 1, 0, 0}, 0, 0, true, true, 1, 0}, {joined, []int{1, 0, 0, 1}, 0, -1, true, false, -1, 0},
		{completeGraph(4), []int{1, 1, 1, 1}, 2, 0, true, true, 0, 2}, {completeGraph(4), []int{2, 0, 0, 0}, 0, 0, true, true, 2, 0}, {completeGraph(4), []int{0, 0, 0, 4}, 2, 0, true, true, 0, 2}, {completeGraph(4), []int{3, 0, 0, 0}, 1, 0, true, true, 1, 1},
		{completeGraph(4), []int{-1, -1, -1, 0}, -1, 4, true, true, -1, -1}, {completeGraph(4), []int{-1, -1, -2, 0}, 0, 0, false, true, -1, -2},
		{graphOf(1), []int{0}, 0, -1, true, false, -1, 0}, {graphOf(1), []int{7}, 7, -1, true, false, -1, 7}, {graphOf(1), []int{8}, 0, 0, false, false, -1, 8}, {graphOf(1), []int{-1}, -1, -1, true, false, -1, -1},
		{graphOf(1), []int{-2}, -1, 0, true, true, -1, -1}, {graphOf(1), []int{-9}, -1, 7, true, true, -1, -1}, {graphOf(1), []int{-10}, 0, 0, false, true, -1, -2}, {graphOf(1), []int{58}, 0, 0, false, false, -1, 58}, {graphOf(1), []int{59}, 0, 0, false, false, -1, -2},
		{parallel(1), []int{0, 0}, 0, -1, true, false, -1, 0}, {parallel(1), []int{-1, -1}, -1, 0, true, true, -1, -1}, {parallel(1), []int{59, -60}, -1, -1, true, false, -1, -1}, {parallel(1), []int{60, -60}, 0, 0, false, false, -1, -2}, {parallel(1), []int{60, -53}, 0, 0, false, false, -1, -2},
		{parallel(2), []int{0, 0}, 0, 0, true, true, 0, 0}, {parallel(2), []int{1, -1}, -1, -1, true, false, -1, -1}, {parallel(2), []int{60, -60}, 0, 0, true, true, 0, 0}, {parallel(2), []int{7, 0}, 6, -1, true, false, -1, 6}, {parallel(2), []int{0, -7}, -1, 6, true, true, -1, -1}, {parallel(2), []int{0, -8}, 0, 0, false, true, -1, -2},
		// The genus is too great for a divisor whose degree and whose residual divisor's degree are at most 7.
		{parallel(12), []int{0, 0}, 0, 0, false, true, -1, -2}, {parallel(12), []int{4, 3}, 0, 0, false, true, -1, -2}, {parallel(12), []int{7, 6}, 0, 0, false, false, -1, 6}, {parallel(12), []int{6, 6}, 0, 0, false, false, -1, -2}, {parallel(12), []int{10, 10}, 0, 0, false, false, -1, 10}, {parallel(12), []int{60, 60}, 0, 0, false, false, -1, 109},
		// The residual divisor has elements at the limit or beyond it.
		{heavy, []int{0, -54, 59}, 0, 0, true, true, 5, 0}, {heavy, []int{0, -55, 59}, 0, 0, false, true, -1, -2}, {heavy, []int{-1, -54, 60}, 0, 0, false, false, -1, -2}, {heavy, []int{-55, 58, 0}, 1, 3, true, true, 1, 1}, {heavy, []int{-56, 59, 0}, 0, 0, false, true, -1, -2},
		{heavy, []int{60, 60, 59}, 0, 0, false, false, -1, 173}, {heavy, []int{60, 60, 60}, 0, 0, false, false, -1, -2}, {heavy, []int{4, -60, 60}, 0, 0, false, true, -1, -2},
		{parallel(12), []int{-50, 60}, 0, 0, false, false, -1, -2}, {parallel(12), []int{-60, 60}, 0, 0, false, true, -1, -2}, {fat, []int{60, -60, 0}, 0, 0, false, true, -1, -2},
	}
}

func TestCanonCases(t *testing.T) {
	for _, c := range canonCases() {
		checkRiemannRoch(t, c.g, c.d, c.rank, c.other, c.both)
		if got := impl.IsSpecial(c.g, c.d); got != c.special {
			t.Errorf("IsSpecial(%v, %v) = %v", c.g, c.d, got)
		}
		checkNumber(t, "CliffordGap", impl.CliffordGap, c.g, c.d, c.gap, c.gap != -1)
		checkNumber(t, "RankFromResidual", impl.RankFromResidual, c.g, c.d, c.calculated, c.calculated != -2)
	}
}

// checkRiemannRoch checks both ranks, which are 0 if RiemannRoch is to fail.
func checkRiemannRoch(t *testing.T, g impl.Graph, d []int, rank int, other int, want bool) {
	t.Helper()
	if !want {
		rank, other = 0, 0
	}
	if got, residual, ok := impl.RiemannRoch(g, d); got != rank || residual != other || ok != want {
		t.Fatalf("RiemannRoch(%v, %v) = %d, %d, %v, want %d, %d, %v", g, d, got, residual, ok, rank, other, want)
	}
}

// checkNumber checks that a function answers with a number, or with 0 if it is to fail.
func checkNumber(t *testing.T, name string, call func(impl.Graph, []int) (int, bool), g impl.Graph, d []int, number int, want bool) {
	t.Helper()
	if !want {
		number = 0
	}
	if got, ok := call(g, d); got != number || ok != want {
		t.Fatalf("%s(%v, %v) = %d, %v, want %d, %v", name, g, d, got, ok, number, want)
	}
}

// TestRiemannRochIsExact compares both ranks and the gap with their definitions, where winnable divisors are known by their classes, and checks the formula of Riemann and Roch.
func TestRiemannRochIsExact(t *testing.T) {
	answers, gaps := map[bool]int{}, map[bool]int{}
	eachCanon(func(g impl.Graph, d []int, won func([]int) bool) {
		residual := minus(canonicalSlowly(g), d)
		if !hasRank(d) || !hasRank(residual) {
			checkRiemannRoch(t, g, d, 0, 0, false)
			checkNumber(t, "CliffordGap", impl.CliffordGap, g, d, 0, false)
			answers[false]++
			return
		}
		rank, other, degree := rankSlowly(won, d), rankSlowly(won, residual), impl.DegreeOf(d)
		if rank-other != degree+1-impl.GenusOf(g) {
			t.Fatalf("the divisor %v on %v has the rank %d, and its residual divisor %d", d, g, rank, other)
		}
		checkRiemannRoch(t, g, d, rank, other, true)
		gap := rank >= 0 && other >= 0
		if gap && degree < 2*rank {
			t.Fatalf("the divisor %v on %v has the rank %d", d, g, rank)
		}
		checkNumber(t, "CliffordGap", impl.CliffordGap, g, d, degree-2*rank, gap)
		answers[true]++
		gaps[gap]++
	})
	if answers[true] < 1000 || answers[false] < 1000 || gaps[true] < 200 || gaps[false] < 200 {
		t.Errorf("the two ranks exist so often: %v, and so often they have a gap: %v", answers, gaps)
	}
}

// TestIsSpecialIsExact compares IsSpecial with its definition, where winnable divisors are known by their classes, and with the rank.
func TestIsSpecialIsExact(t *testing.T) {
	answers, beyond := map[bool]int{}, map[bool]int{}
	eachCanon(func(g impl.Graph, d []int, won func([]int) bool) {
		genus, degree := impl.GenusOf(g), impl.DegreeOf(d)
		got := impl.IsSpecial(g, d)
		if degree > 7 {
			if got {
				t.Fatalf("IsSpecial(%v, %v) = true, and the degree is %d", g, d, degree)
			}
			return
		}
		residual := minus(canonicalSlowly(g), d)
		if got != (impl.DegreeOf(residual) >= genus || won(residual)) {
			t.Fatalf("IsSpecial(%v, %v) = %v, and the residual divisor is %v", g, d, got, residual)
		}
		if rank := rankSlowly(won, d); got != (rank > degree-genus) {
			t.Fatalf("IsSpecial(%v, %v) = %v, and the rank is %d", g, d, got, rank)
		}
		answers[got]++
		if !within(residual) {
			beyond[got]++
		}
	})
	if answers[true] < 1000 || answers[false] < 500 || beyond[true] < 20 || beyond[false] < 3 {
		t.Errorf("the answers are %v, and %v if the residual divisor is not valid", answers, beyond)
	}
}

// TestRankFromResidualIsExact compares the calculated ranks with their definition, and for small degrees with RankOf.
func TestRankFromResidualIsExact(t *testing.T) {
	answers, large := map[bool]int{}, 0
	eachCanon(func(g impl.Graph, d []int, won func([]int) bool) {
		ok := hasRank(minus(canonicalSlowly(g), d))
		want := 0
		if ok {
			want = canonRank(g, won, d)
		}
		checkNumber(t, "RankFromResidual", impl.RankFromResidual, g, d, want, ok)
		answers[ok]++
		switch rank, short := impl.RankOf(g, d); {
		case ok && !short:
			large++
		case ok && rank != want:
			t.Fatalf("RankOf(%v, %v) = %d, and RankFromResidual answers %d", g, d, rank, want)
		}
	})
	if answers[true] < 1000 || answers[false] < 500 || large < 500 {
		t.Errorf("the answers are %v, %d of them for degrees from 8 on", answers, large)
	}
}

// TestResidualLimits checks, for each vertex of each graph, the greatest degree of the residual divisor for which it has a rank, its greatest and least elements, and the values beyond them.
func TestResidualLimits(t *testing.T) {
	for _, g := range append(someGraphs(), pendant(), parallel(3), parallel(9)) {
		won := wonSlowly(g)
		for v := range g.N {
			for _, residual := range residualsAt(g.N, v) {
				d := minus(canonicalSlowly(g), residual)
				if !within(d) {
					continue
				}
				ok := hasRank(residual)
				both := ok && hasRank(d)
				checkNumber(t, "RankFromResidual", impl.RankFromResidual, g, d, canonRank(g, won, d), ok)
				if both {
					checkRiemannRoch(t, g, d, canonRank(g, won, d), canonRank(g, won, residual), true)
				} else {
					checkRiemannRoch(t, g, d, 0, 0, false)
					checkNumber(t, "CliffordGap", impl.CliffordGap, g, d, 0, false)
				}
			}
		}
	}
}

// residualsAt returns divisors with n vertices whose degrees are 7 or 8, or whose numbers of chips at v are 60, 61 or as many debts.
func residualsAt(n int, v int) [][]int {
	var all [][]int
	w := (v + 1) % n
	for _, degree := range []int{7, 8} {
		d := make([]int, n)
		d[v] = degree
		spread := slices.Clone(d)
		spread[v] -= 50
		spread[w] += 50
		all = append(all, d, spread)
	}
	for _, most := range []int{60, 61, -60, -61} {
		for _, degree := range []int{-1, 0, 2, 5, 7} {
			d := make([]int, n)
			d[w] = degree - most
			d[v] += most
			all = append(all, d)
		}
	}
	return all
}

// checkNoCanon checks that all functions fail for d.
func checkNoCanon(t *testing.T, name string, g impl.Graph, d []int) {
	t.Helper()
	if got, ok := impl.ResidualOf(g, d); ok || len(got) != 0 {
		t.Fatalf("%s: ResidualOf(%v, %v) = %v, %v", name, g, d, got, ok)
	}
	if impl.IsSpecial(g, d) {
		t.Fatalf("%s: IsSpecial(%v, %v) = true", name, g, d)
	}
	checkRiemannRoch(t, g, d, 0, 0, false)
	checkNumber(t, name+": CliffordGap", impl.CliffordGap, g, d, 0, false)
	checkNumber(t, name+": RankFromResidual", impl.RankFromResidual, g, d, 0, false)
}

func TestCanonRejects(t *testing.T) {
	eachBadDivisor(func(name string, g impl.Graph, d []int) { checkNoCanon(t, name, g, d) })
	for _, c := range []struct {
		g impl.Graph
		d []int
	}{
		{parallel(12), []int{61, -41}}, {parallel(12), []int{-48, 61}}, {parallel(4), []int{61, -56}}, {parallel(1), []int{-61, 59}},
		{pendant(), []int{0, 61, -57}}, {pendant(), []int{3, 61, -61}}, {completeGraph(5), []int{61, -56, 0, 0, 0}},
	} {
		if residual := minus(canonicalSlowly(c.g), c.d); !hasRank(residual) {
			t.Errorf("%v on %v has no rank", residual, c.g)
		}
		checkNoCanon(t, "a residual divisor with a rank", c.g, c.d)
	}
}

// canonAnswers returns the answers of all functions of the chapter, as text.
func canonAnswers(g impl.Graph, d []int, e []int) string {
	text := fmt.Sprint(impl.CanonicalOf(g))
	for _, l := range [][]int{d, e} {
		residual, residualOk := impl.ResidualOf(g, l)
		rank, other, rankOk := impl.RiemannRoch(g, l)
		gap, gapOk := impl.CliffordGap(g, l)
		calculated, calculatedOk := impl.RankFromResidual(g, l)
		text += fmt.Sprintln(residual, residualOk, rank, other, rankOk, gap, gapOk, calculated, calculatedOk, impl.IsSpecial(g, l))
	}
	return text
}

// TestCanonArgumentsAreKept checks that no function changes its arguments or the memory behind them, and that a second call answers the same.
func TestCanonArgumentsAreKept(t *testing.T) {
	for _, g := range append(someGraphs(), pendant()) {
		all := canonDivisors(g)
		for k, d := range all {
			if k%16 == 0 {
				checkKept(t, g, d, all[len(all)-1-k], canonAnswers)
			}
			if k%80 == 0 {
				checkKept(t, g, d, d, canonAnswers)
			}
		}
	}
	checkOddKept(t, canonAnswers)
}

// TestCanonResultsAreNew checks that results share no memory with arguments or with each other.
func TestCanonResultsAreNew(t *testing.T) {
	for _, g := range append(someGraphs(), pendant()) {
		checkListIsNew(t, func() []int { return impl.CanonicalOf(g) })
		for _, d := range append(listsOf(3, g.N, 9), make([]int, g.N), canonicalSlowly(g)) {
			checkCombination(t, d, nil, func(d []int, e []int) ([]int, bool) { return impl.ResidualOf(g, d) })
			spoilList(impl.CanonicalOf(g))
			residual, _ := impl.ResidualOf(g, d)
			spoilList(residual)
			if got := impl.CanonicalOf(g); !slices.Equal(got, canonicalSlowly(g)) {
				t.Fatalf("CanonicalOf(%v) = %v after its result has been spoilt", g, got)
			}
		}
	}
}

func TestCanonCallsAtOnce(t *testing.T) {
	for _, g := range []impl.Graph{graphOf(1), parallel(12), completeGraph(4), pendant()} {
		for _, d := range poorDivisors(g.N)[:10] {
			checkAtOnce(t, g, d, canonicalSlowly(g), canonAnswers)
		}
	}
}
