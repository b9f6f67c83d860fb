package tests

import (
	"fmt"
	"math"
	"slices"
	"sync"
	"testing"

	"loop.example/g00841/impl"
)

// wonSlowly returns a function that says whether a divisor of a valid graph is winnable, by the classes of all effective divisors of its degree and without firing.
func wonSlowly(g impl.Graph) func(d []int) bool {
	class := classesOf(g)
	won := map[int]map[classKey]bool{}
	return func(d []int) bool {
		degree := impl.DegreeOf(d)
		if won[degree] == nil {
			won[degree] = map[classKey]bool{}
			for _, e := range effectiveSlowly(g.N, degree) {
				won[degree][class(e)] = true
			}
		}
		return won[degree][class(d)]
	}
}

// minus returns the differences of the elements.
func minus(d []int, e []int) []int {
	rest := slices.Clone(d)
	for v := range rest {
		rest[v] -= e[v]
	}
	return rest
}

// lossSlowly returns, for the least degree for which there is one, the least effective divisor without which d is not winnable. The rank of d is its degree minus 1.
func lossSlowly(won func([]int) bool, d []int) []int {
	for degree := 0; ; degree++ {
		for _, e := range effectiveSlowly(len(d), degree) {
			if !won(minus(d, e)) {
				return e
			}
		}
	}
}

// rankSlowly returns the rank of a divisor of a valid graph.
func rankSlowly(won func([]int) bool, d []int) int {
	return impl.DegreeOf(lossSlowly(won, d)) - 1
}

// basePointsSlowly returns the vertices where a chip can be removed from d so that the rank stays.
func basePointsSlowly(won func([]int) bool, d []int) []int {
	rank := rankSlowly(won, d)
	var points []int
	for v := range d {
		if rank >= 0 && rankSlowly(won, minus(d, scriptOf(len(d), []int{v}))) == rank {
			points = append(points, v)
		}
	}
	return points
}

// canonicalSlowly returns the divisor with the number of edges minus 2 at each vertex.
func canonicalSlowly(g impl.Graph) []int {
	k := slices.Repeat([]int{-2}, g.N)
	for _, e := range g.Edges {
		k[e.A]++
		k[e.B]++
	}
	return k
}

// within reports whether no element is beyond 60 or -60.
func within(d []int) bool {
	return max(slices.Max(d), -slices.Min(d)) <= 60
}

// eachListed calls check with each so many of the divisors of eachDivisor, without those of too great a degree.
func eachListed(step int, check func(g impl.Graph, d []int)) {
	k := 0
	eachDivisor(func(g impl.Graph, d []int) {
		k++
		if k%step == 0 && impl.DegreeOf(d) <= 7 {
			check(g, d)
		}
	})
}

// rankCase is a divisor with its rank, its witness and its base points.
type rankCase struct {
	g       impl.Graph
	d       []int
	rank    int
	witness []int
	points  []int
}

func rankCases() []rankCase {
	fat := graphOf(3, 0, 1, 0, 1, 0, 2, 1, 2)
	path := graphOf(3, 0, 1, 1, 2)
	joined := graphOf(4, 0, 1, 0, 1, 1, 2, 2, 3, 2, 3)
	heavy := graphOf(3, 0, 1, 0, 1, 0, 1, 0, 1, 0, 1, 0, 1, 0, 1, 1, 2)
	return []rankCase{
		{fat, []int{1, 1, 0}, 1, []int{0, 1, 1}, nil}, {fat, []int{0, 0, 2}, 1, []int{0, 1, 1}, nil},
		{fat, []int{1, 0, -1}, -1, []int{0, 0, 0}, nil}, {fat, []int{0, 0, -1}, -1, []int{0, 0, 0}, nil}, {fat, []int{-60, -60, -60}, -1, []int{0, 0, 0}, nil},
		{fat, []int{0, 0, 0}, 0, []int{0, 0, 1}, nil}, {fat, []int{5, 0, -5}, 0, []int{0, 0, 1}, nil},
		{fat, []int{1, 0, 0}, 0, []int{0, 0, 1}, []int{0}}, {fat, []int{0, 1, 0}, 0, []int{0, 0, 1}, []int{1}}, {fat, []int{0, 0, 1}, 0, []int{0, 1, 0}, []int{2}},
		{fat, []int{0, 2, 0}, 0, []int{0, 0, 1}, []int{1}}, {fat, []int{2, 1, 0}, 1, []int{0, 1, 1}, []int{0}}, {fat, []int{1, 1, 1}, 1, []int{0, 2, 0}, []int{2}}, {fat, []int{3, 0, 0}, 1, []int{0, 0, 2}, nil},
		{graphOf(1), []int{0}, 0, []int{1}, nil}, {graphOf(1), []int{7}, 7, []int{8}, nil}, {graphOf(1), []int{-1}, -1, []int{0}, nil}, {graphOf(1), []int{-60}, -1, []int{0}, nil},
		{parallel(1), []int{60, -53}, 7, []int{0, 8}, nil}, {parallel(1), []int{-60, 60}, 0, []int{0, 1}, nil}, {parallel(1), []int{-60, 59}, -1, []int{0, 0}, nil},
		{path, []int{0, 0, 1}, 1, []int{0, 0, 2}, nil}, {path, []int{60, -60, 7}, 7, []int{0, 0, 8}, nil}, {path, []int{3, -1, -3}, -1, []int{0, 0, 0}, nil},
		{parallel(2), []int{0, 0}, 0, []int{0, 1}, nil}, {parallel(2), []int{2, -2}, 0, []int{0, 1}, nil}, {parallel(2), []int{1, -1}, -1, []int{0, 0}, nil},
		{parallel(2), []int{1, 0}, 0, []int{0, 1}, []int{0}}, {parallel(2), []int{0, 1}, 0, []int{1, 0}, []int{1}}, {parallel(2), []int{2, 0}, 1, []int{1, 1}, nil}, {parallel(2), []int{1, 1}, 1, []int{0, 2}, nil}, {parallel(2), []int{7, 0}, 6, []int{0, 7}, nil},
		{parallel(12), []int{7, 0}, 0, []int{0, 1}, []int{0}}, {parallel(12), []int{4, 3}, 3, []int{0, 4}, []int{0}}, {parallel(12), []int{3, 4}, 3, []int{4, 0}, []int{1}}, {parallel(12), []int{3, 3}, 3, []int{0, 4}, nil}, {parallel(12), []int{60, -53}, 0, []int{1, 0}, []int{1}},
		{completeGraph(4), []int{1, 1, 1, 1}, 2, []int{0, 0, 1, 2}, nil}, {completeGraph(4), []int{0, 0, 1, 0}, 0, []int{0, 0, 0, 1}, []int{2}}, {completeGraph(4), []int{3, 0, 0, 0}, 1, []int{0, 0, 0, 2}, nil}, {completeGraph(4), []int{2, 0, 0, 2}, 1, []int{0, 0, 1, 1}, nil},
		{joined, []int{0, 1, 1, 0}, 1, []int{0, 0, 1, 1}, nil}, {joined, []int{0, 1, 0, 0}, 0, []int{0, 0, 0, 1}, []int{1, 2}}, {joined, []int{2, 0, 0, 0}, 1, []int{0, 0, 1, 1}, nil}, {joined, []int{1, 0, 0, 1}, 0, []int{0, 0, 1, 0}, []int{0, 3}},
		// A chip is removed where the debt is already the greatest one.
		{heavy, []int{-60, 60, 3}, 0, []int{0, 0, 1}, []int{0}}, {heavy, []int{3, -60, 60}, 0, []int{0, 0, 1}, []int{0}}, {heavy, []int{-60, 57, 8}, 2, []int{0, 0, 3}, []int{0}}, {heavy, []int{57, -60, 6}, 1, []int{2, 0, 0}, []int{1, 2}},
	}
}

func TestRankCases(t *testing.T) {
	for _, c := range rankCases() {
		if got, ok := impl.RankOf(c.g, c.d); !ok || got != c.rank {
			t.Errorf("RankOf(%v, %v) = %d, %v, want %d", c.g, c.d, got, ok, c.rank)
		}
		if got, ok := impl.RankWitness(c.g, c.d); !ok || !slices.Equal(got, c.witness) {
			t.Errorf("RankWitness(%v, %v) = %v, %v, want %v", c.g, c.d, got, ok, c.witness)
		}
		if got := impl.BasePoints(c.g, c.d); !slices.Equal(got, c.points) {
			t.Errorf("BasePoints(%v, %v) = %v, want %v", c.g, c.d, got, c.points)
		}
	}
}

// checkHasRank checks HasRank around the rank and with the least and the greatest ints.
func checkHasRank(t *testing.T, g impl.Graph, d []int, rank int) {
	for _, r := range []int{rank - 1, rank, rank + 1, -2, -1, 0, 1, 7, 8, 9, math.MinInt, math.MinInt + 1, math.MaxInt - 1, math.MaxInt} {
		if got := impl.HasRank(g, d, r); got != (r <= rank) {
			t.Fatalf("HasRank(%v, %v, %d) = %v, and the rank is %d", g, d, r, got, rank)
		}
	}
}

func TestHasRank(t *testing.T) {
	for _, c := range rankCases() {
		checkHasRank(t, c.g, c.d, c.rank)
	}
	eachListed(20, func(g impl.Graph, d []int) {
		checkHasRank(t, g, d, rankSlowly(wonSlowly(g), d))
	})
}

// checkNoRank checks that all functions fail for d.
func checkNoRank(t *testing.T, name string, g impl.Graph, d []int) {
	if got, ok := impl.RankOf(g, d); ok || got != 0 {
		t.Fatalf("%s: RankOf(%v, %v) = %d, %v", name, g, d, got, ok)
	}
	if got, ok := impl.RankWitness(g, d); ok || len(got) != 0 {
		t.Fatalf("%s: RankWitness(%v, %v) = %v, %v", name, g, d, got, ok)
	}
	for _, r := range []int{math.MinInt, -2, -1, 0, 1, 7, math.MaxInt} {
		if impl.HasRank(g, d, r) {
			t.Fatalf("%s: HasRank(%v, %v, %d) = true", name, g, d, r)
		}
	}
	for _, e := range [][]int{make([]int, len(d)), d} {
		if got, ok := impl.AnswerTo(g, d, e); ok || len(got) != 0 {
			t.Fatalf("%s: AnswerTo(%v, %v, %v) = %v, %v", name, g, d, e, got, ok)
		}
	}
	if got := impl.BasePoints(g, d); len(got) != 0 {
		t.Fatalf("%s: BasePoints(%v, %v) = %v", name, g, d, got)
	}
}

// TestRankIsExact compares the ranks, witnesses and base points with their definitions, where winnable divisors are known by their classes.
func TestRankIsExact(t *testing.T) {
	ranks, points := map[int]int{}, map[int]int{}
	eachListed(2, func(g impl.Graph, d []int) {
		won := wonSlowly(g)
		want := lossSlowly(won, d)
		rank := impl.DegreeOf(want) - 1
		if got, ok := impl.RankOf(g, d); !ok || got != rank {
			t.Fatalf("RankOf(%v, %v) = %d, %v, want %d", g, d, got, ok, rank)
		}
		if got, ok := impl.RankWitness(g, d); !ok || !slices.Equal(got, want) {
			t.Fatalf("RankWitness(%v, %v) = %v, %v, want %v", g, d, got, ok, want)
		}
		ranks[rank]++
		base := basePointsSlowly(won, d)
		if got := impl.BasePoints(g, d); !slices.Equal(got, base) {
			t.Fatalf("BasePoints(%v, %v) = %v, want %v", g, d, got, base)
		}
		points[len(base)]++
	})
	for rank := -1; rank <= 7; rank++ {
		if ranks[rank] < 10 {
			t.Errorf("the ranks occur so often: %v", ranks)
		}
	}
	if points[1] < 50 || points[2] < 5 || points[3] < 1 {
		t.Errorf("the numbers of base points occur so often: %v", points)
	}
}

// TestRanksOfAllClasses checks the ranks of all classes of each degree up to the greatest one on graphs with few classes.
func TestRanksOfAllClasses(t *testing.T) {
	for _, g := range someGraphs() {
		if impl.CountTrees(g) > 20 {
			continue
		}
		genus := impl.GenusOf(g)
		won := wonSlowly(g)
		for degree := -2; degree <= 7; degree++ {
			for _, d := range reducedDivisors(g, 0) {
				d[0] += degree
				rank, ok := impl.RankOf(g, d)
				if want := rankSlowly(won, d); !ok || rank != want {
					t.Fatalf("RankOf(%v, %v) = %d, %v, want %d", g, d, rank, ok, want)
				}
				// Above the degree of the canonical divisor, the rank depends on nothing else.
				if degree > 2*genus-2 && rank != max(degree-genus, -1) {
					t.Fatalf("the divisor %v on %v has the rank %d", d, g, rank)
				}
			}
		}
	}
}

// TestRanksOfTrees checks that on trees the rank is the degree and the chips may lie anywhere.
func TestRanksOfTrees(t *testing.T) {
	for _, g := range []impl.Graph{graphOf(1), parallel(1), graphOf(3, 0, 2, 1, 2), graphOf(4, 0, 1, 0, 2, 0, 3), graphOf(6, 0, 1, 1, 2, 2, 3, 3, 4, 4, 5), graphOf(6, 0, 5, 1, 5, 2, 5, 3, 5, 4, 5)} {
		for _, d := range poorDivisors(g.N) {
			degree := impl.DegreeOf(d)
			if degree > 7 {
				continue
			}
			want := make([]int, g.N)
			want[g.N-1] = max(degree+1, 0)
			if got, ok := impl.RankOf(g, d); !ok || got != max(degree, -1) {
				t.Fatalf("RankOf(%v, %v) = %d, %v", g, d, got, ok)
			}
			if got, ok := impl.RankWitness(g, d); !ok || !slices.Equal(got, want) {
				t.Fatalf("RankWitness(%v, %v) = %v, %v, want %v", g, d, got, ok, want)
			}
			if got := impl.BasePoints(g, d); len(got) != 0 {
				t.Fatalf("BasePoints(%v, %v) = %v", g, d, got)
			}
		}
	}
}

// TestRiemannRochFormula checks the formula of Riemann and Roch.
func TestRiemannRochFormula(t *testing.T) {
	checked, special := 0, 0
	eachListed(1, func(g impl.Graph, d []int) {
		residual := minus(canonicalSlowly(g), d)
		degree := impl.DegreeOf(d)
		if impl.DegreeOf(residual) > 7 || !within(residual) {
			return
		}
		rank, ok := impl.RankOf(g, d)
		other, fine := impl.RankOf(g, residual)
		if !ok || !fine || rank-other != degree+1-impl.GenusOf(g) {
			t.Fatalf("the divisor %v on %v has the rank %d, and its residual divisor %v has the rank %d", d, g, rank, residual, other)
		}
		checked++
		if rank >= 0 && other >= 0 {
			special++
		}
	})
	if checked < 1000 || special < 100 {
		t.Errorf("the formula has been checked %d times, %d of them with two ranks from 0 on", checked, special)
	}
}

// TestRanksOfSums checks that ranks from 0 on add up at most to the rank of the sum, and that the rank falls by at most 1 with each chip.
func TestRanksOfSums(t *testing.T) {
	checked := 0
	for _, g := range someGraphs() {
		var known [][]int
		for _, d := range append(poorDivisors(g.N), listsOf(6, g.N, 1)...) {
			if impl.DegreeOf(d) > 4 {
				continue
			}
			rank, ok := impl.RankOf(g, d)
			if !ok {
				continue
			}
			v := len(known) % g.N
			known = append(known, d)
			fallen := minus(d, scriptOf(g.N, []int{v}))
			if lower, ok := impl.RankOf(g, fallen); within(fallen) && (!ok || lower > rank || lower < rank-1) {
				t.Fatalf("the rank of %v on %v is %d, and with a chip less at %d %d, %v", d, g, rank, v, lower, ok)
			}
			for _, other := range known {
				sum, _ := impl.AddDivisors(d, other)
				otherRank, _ := impl.RankOf(g, other)
				whole, ok := impl.RankOf(g, sum)
				if !ok || rank < 0 || otherRank < 0 {
					continue
				}
				checked++
				if whole < rank+otherRank {
					t.Fatalf("%v and %v on %v have the ranks %d and %d, and their sum has %d", d, other, g, rank, otherRank, whole)
				}
			}
		}
	}
	if checked < 1000 {
		t.Errorf("only %d sums have been checked", checked)
	}
}

// TestRankDegreeLimit checks the greatest degree with a rank and the one beyond it, also where single numbers of chips are much greater.
func TestRankDegreeLimit(t *testing.T) {
	for _, g := range someGraphs() {
		won := wonSlowly(g)
		for v := range g.N {
			for _, w := range []int{v, (v + 1) % g.N} {
				d := make([]int, g.N)
				d[v] = 7
				if v != w {
					d[v], d[w] = 60, -53
				}
				if got, ok := impl.RankOf(g, d); !ok || got != rankSlowly(won, d) {
					t.Errorf("RankOf(%v, %v) = %d, %v", g, d, got, ok)
				}
				if got, ok := impl.RankWitness(g, d); !ok || !slices.Equal(got, lossSlowly(won, d)) {
					t.Errorf("RankWitness(%v, %v) = %v, %v", g, d, got, ok)
				}
				if !impl.HasRank(g, d, 0) && impl.IsWinnable(g, d) || !impl.HasRank(g, d, -1) {
					t.Errorf("%v on %v has no rank", d, g)
				}
				d[w]++
				checkNoRank(t, "degree 8", g, d)
			}
		}
		checkNoRank(t, "greatest degree", g, slices.Repeat([]int{60}, g.N))
		lowest := slices.Repeat([]int{-60}, g.N)
		if got, ok := impl.RankOf(g, lowest); !ok || got != -1 {
			t.Errorf("RankOf(%v, %v) = %d, %v", g, lowest, got, ok)
		}
	}
}

// TestRankIsOfTheClass checks that ranks, witnesses, answers and base points do not change when a script fires.
func TestRankIsOfTheClass(t *testing.T) {
	eachListed(5, func(g impl.Graph, d []int) {
		rank, ok := impl.RankOf(g, d)
		witness, _ := impl.RankWitness(g, d)
		points := impl.BasePoints(g, d)
		for _, s := range listsOf(2, g.N, 2) {
			after, _ := impl.FireScript(g, d, s)
			if !within(after) {
				continue
			}
			got, fine := impl.RankOf(g, after)
			other, _ := impl.RankWitness(g, after)
			if got != rank || fine != ok || !slices.Equal(other, witness) || !slices.Equal(impl.BasePoints(g, after), points) {
				t.Fatalf("%v on %v has not the rank of %v", after, g, d)
			}
		}
	})
}

// answerCase is a divisor, a removal and the least divisor that answers to it.
type answerCase struct {
	g            impl.Graph
	d, e, answer []int
}

func TestAnswerTo(t *testing.T) {
	fat := graphOf(3, 0, 1, 0, 1, 0, 2, 1, 2)
	path := graphOf(3, 0, 1, 1, 2)
	for _, c := range []answerCase{
		{fat, []int{1, 1, 0}, []int{0, 0, 1}, []int{0, 0, 2}}, {fat, []int{1, 1, 0}, []int{0, 1, 0}, []int{1, 1, 0}}, {fat, []int{0, 0, 2}, []int{1, 1, 0}, []int{1, 1, 0}},
		{fat, []int{1, 1, 0}, []int{0, 0, 2}, []int{0, 0, 2}}, {fat, []int{1, 1, 0}, []int{0, 0, 0}, []int{0, 0, 2}}, {fat, []int{1, 1, 0}, []int{0, 1, 1}, nil}, {fat, []int{1, 1, 0}, []int{0, 0, 3}, nil}, {fat, []int{1, 1, 0}, []int{60, 60, 60}, nil},
		{fat, []int{0, 0, 0}, []int{0, 0, 0}, []int{0, 0, 0}}, {fat, []int{5, 0, -5}, []int{0, 0, 0}, []int{0, 0, 0}}, {fat, []int{1, 0, -1}, []int{0, 0, 0}, nil}, {fat, []int{0, 0, -1}, []int{0, 0, 0}, nil},
		{fat, []int{1, 1, 0}, []int{0, 0, -1}, nil}, {fat, []int{1, 1, 0}, []int{-1, 0, 0}, nil}, {fat, []int{1, 1, 0}, []int{-60, -60, -60}, nil}, {fat, []int{1, 1, 0}, []int{-1, 1, 0}, nil},
		{graphOf(1), []int{7}, []int{7}, []int{7}}, {graphOf(1), []int{7}, []int{0}, []int{7}}, {graphOf(1), []int{7}, []int{8}, nil}, {graphOf(1), []int{0}, []int{0}, []int{0}}, {graphOf(1), []int{7}, []int{60}, nil},
		{path, []int{2, 0, 0}, []int{0, 0, 0}, []int{0, 0, 2}}, {path, []int{0, 2, 0}, []int{1, 0, 0}, []int{1, 0, 1}}, {path, []int{60, -60, 7}, []int{3, 3, 1}, []int{3, 3, 1}}, {path, []int{60, -60, 7}, []int{3, 3, 0}, []int{3, 3, 1}}, {path, []int{60, -60, 7}, []int{3, 3, 2}, nil},
		{parallel(2), []int{-1, 8}, []int{2, 1}, []int{3, 4}}, {parallel(2), []int{-1, 8}, []int{6, 0}, []int{7, 0}}, {parallel(2), []int{-1, 8}, []int{6, 1}, nil},
		{completeGraph(4), []int{0, 1, 1, 1}, []int{2, 0, 0, 0}, []int{3, 0, 0, 0}}, {completeGraph(4), []int{3, 0, 0, 0}, []int{0, 0, 1, 0}, []int{0, 1, 1, 1}}, {completeGraph(4), []int{3, 0, 0, 0}, []int{1, 0, 1, 0}, nil},
	} {
		if got, ok := impl.AnswerTo(c.g, c.d, c.e); ok != (c.answer != nil) || !slices.Equal(got, c.answer) {
			t.Errorf("AnswerTo(%v, %v, %v) = %v, %v, want %v", c.g, c.d, c.e, got, ok, c.answer)
		}
	}
}

// removalsFor returns effective divisors: all with at most one chip, and others up to the greatest number of chips.
func removalsFor(n int) [][]int {
	var all [][]int
	for degree := range 2 {
		all = append(all, effectiveSlowly(n, degree)...)
	}
	for _, l := range append(listsOf(3, n, 2), listsOf(2, n, 60)...) {
		for v := range l {
			l[v] = max(l[v], 0)
		}
		all = append(all, l)
	}
	return all
}

// TestAnswersAreExact compares AnswerTo with all effective divisors of the class, and checks that there is an answer up to the rank.
func TestAnswersAreExact(t *testing.T) {
	answers := map[bool]int{}
	eachListed(3, func(g impl.Graph, d []int) {
		degree := impl.DegreeOf(d)
		class := classesOf(g)
		key := class(d)
		list := slices.DeleteFunc(effectiveSlowly(g.N, degree), func(f []int) bool { return class(f) != key })
		rank, _ := impl.RankOf(g, d)
		for _, e := range removalsFor(g.N) {
			k := slices.IndexFunc(list, func(f []int) bool { return slices.Min(minus(f, e)) >= 0 })
			got, ok := impl.AnswerTo(g, d, e)
			if ok != (k >= 0) || ok && !slices.Equal(got, list[k]) || !ok && len(got) != 0 {
				t.Fatalf("AnswerTo(%v, %v, %v) = %v, %v, and the class has %v", g, d, e, got, ok, list)
			}
			if !ok && impl.DegreeOf(e) <= rank {
				t.Fatalf("AnswerTo(%v, %v, %v) = %v, %v, and the rank is %d", g, d, e, got, ok, rank)
			}
			answers[ok]++
		}
		witness, _ := impl.RankWitness(g, d)
		if got, ok := impl.AnswerTo(g, d, witness); ok || len(got) != 0 {
			t.Fatalf("AnswerTo(%v, %v, %v) = %v, %v, and the third argument is the witness", g, d, witness, got, ok)
		}
	})
	if answers[true] < 2000 || answers[false] < 2000 {
		t.Errorf("%d removals have an answer and %d have none", answers[true], answers[false])
	}
}

func TestRankRejects(t *testing.T) {
	eachBadDivisor(func(name string, g impl.Graph, d []int) { checkNoRank(t, name, g, d) })
	eachDivisor(func(g impl.Graph, d []int) {
		if impl.DegreeOf(d) > 7 {
			checkNoRank(t, "great degree", g, d)
		}
	})
}

// TestAnswerRejects checks that AnswerTo answers to no removal that is not an effective valid divisor.
func TestAnswerRejects(t *testing.T) {
	check := func(name string, g impl.Graph, d []int, e []int) {
		if got, ok := impl.AnswerTo(g, d, e); ok || len(got) != 0 {
			t.Errorf("%s: AnswerTo(%v, %v, %v) = %v, %v", name, g, d, e, got, ok)
		}
	}
	for _, g := range someGraphs() {
		none := make([]int, g.N)
		for _, d := range [][]int{none, slices.Repeat([]int{1}, g.N), scriptOf(g.N, []int{0})} {
			for name, e := range badLists(g.N, 60) {
				check(name, g, d, e)
				check(name, g, e, d)
			}
			for v := range g.N {
				for _, debt := range []int{-1, -2, -60, -61, math.MinInt} {
					e := slices.Clone(none)
					e[v] = debt
					check("debt", g, d, e)
					if w := g.N - 1 - v; w != v {
						e[w] = 60
						check("debt beside chips", g, d, e)
					}
				}
			}
		}
	}
	eachBadDivisor(func(name string, g impl.Graph, d []int) {
		check(name, g, d, make([]int, len(d)))
		check(name, g, make([]int, len(d)), d)
	})
}

// rankAnswers returns the answers of all functions of the chapter, as text.
func rankAnswers(g impl.Graph, d []int, e []int) string {
	rank, rankOk := impl.RankOf(g, d)
	witness, witnessOk := impl.RankWitness(g, d)
	answer, answerOk := impl.AnswerTo(g, d, e)
	return fmt.Sprint(rank, rankOk, witness, witnessOk, answer, answerOk, impl.BasePoints(g, d), impl.HasRank(g, d, 1))
}

// TestRankArgumentsAreKept checks that no function changes its arguments or the memory behind them, and that a second call answers the same.
func TestRankArgumentsAreKept(t *testing.T) {
	for _, g := range someGraphs() {
		for k, d := range append(divisorsOf(g.N), poorDivisors(g.N)...) {
			if k%2 == 0 {
				checkKept(t, g, d, scriptOf(g.N, []int{0}), rankAnswers)
			}
			if k%8 == 0 {
				checkKept(t, g, d, d, rankAnswers)
			}
		}
	}
	checkOddKept(t, rankAnswers)
}

// TestRankResultsAreNew checks that results share no memory with arguments or with each other.
func TestRankResultsAreNew(t *testing.T) {
	for _, g := range someGraphs() {
		none := make([]int, g.N)
		full := slices.Clone(none)
		full[g.N-1] = 7
		for _, d := range [][]int{none, scriptOf(g.N, []int{0}), full, slices.Repeat([]int{-1}, g.N), slices.Repeat([]int{1}, g.N)} {
			checkCombination(t, d, nil, func(d []int, e []int) ([]int, bool) { return impl.RankWitness(g, d) })
			checkCombination(t, d, nil, func(d []int, e []int) ([]int, bool) { return impl.BasePoints(g, d), true })
			if impl.IsWinnable(g, d) {
				checkCombination(t, d, none, func(d []int, e []int) ([]int, bool) { return impl.AnswerTo(g, d, e) })
				checkCombination(t, d, d, func(d []int, e []int) ([]int, bool) { return impl.AnswerTo(g, d, e) })
			}
		}
	}
}

// checkAtOnce checks that many calls at the same time with the same arguments answer the same. It calls the functions by answers, which returns their answers as text.
func checkAtOnce(t *testing.T, g impl.Graph, a []int, b []int, answers func(impl.Graph, []int, []int) string) {
	want := answers(g, a, b)
	got := make([]string, 20)
	var calls sync.WaitGroup
	for k := range got {
		calls.Go(func() { got[k] = answers(g, a, b) })
	}
	calls.Wait()
	if slices.ContainsFunc(got, func(text string) bool { return text != want }) {
		t.Errorf("the answers for %v and %v on %v differ: %v, want %v", a, b, g, got, want)
	}
}

func TestRankCallsAtOnce(t *testing.T) {
	for _, g := range []impl.Graph{graphOf(1), parallel(12), completeGraph(4), graphOf(6, 0, 1, 1, 2, 2, 3, 3, 4, 4, 5)} {
		for _, d := range poorDivisors(g.N)[:10] {
			checkAtOnce(t, g, d, scriptOf(g.N, []int{0}), rankAnswers)
		}
	}
}
