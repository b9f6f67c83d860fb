package tests

import (
	"fmt"
	"math"
	"slices"
	"testing"

	"loop.example/g00841/impl"
)

// edgesToSlowly returns the number of edges between a vertex and the vertices of a set.
func edgesToSlowly(g impl.Graph, v int, set []int) int {
	n := 0
	for _, e := range g.Edges {
		if e.A == v && slices.Contains(set, e.B) || e.B == v && slices.Contains(set, e.A) {
			n++
		}
	}
	return n
}

// burnSlowly is BurnFrom of valid arguments by its definition.
func burnSlowly(g impl.Graph, d []int, q int) []int {
	burnt := []int{q}
	for range g.N {
		for v := range g.N {
			if !slices.Contains(burnt, v) && d[v] < edgesToSlowly(g, v, burnt) {
				burnt = append(burnt, v)
				break
			}
		}
	}
	return burnt
}

// setsWithout returns all sets of vertices of a graph with n vertices that are not empty and do not have q.
func setsWithout(n int, q int) [][]int {
	return slices.DeleteFunc(subsetsOf(n), func(set []int) bool {
		return len(set) == 0 || slices.Contains(set, q)
	})
}

// debtBeside reports whether a vertex other than q is in debt.
func debtBeside(d []int, q int) bool {
	for v, chips := range d {
		if v != q && chips < 0 {
			return true
		}
	}
	return false
}

// legalSlowly reports whether no vertex of a set is in debt after the set has fired.
func legalSlowly(g impl.Graph, d []int, set []int) bool {
	after := fireSlowly(g, d, scriptOf(g.N, set))
	return !slices.ContainsFunc(set, func(v int) bool { return after[v] < 0 })
}

// reducedSlowly reports whether a divisor, whose elements may be beyond all limits, is q-reduced by the definition.
func reducedSlowly(g impl.Graph, d []int, q int) bool {
	return !debtBeside(d, q) && !slices.ContainsFunc(setsWithout(g.N, q), func(set []int) bool {
		return legalSlowly(g, d, set)
	})
}

// scriptSlowly returns the script without firings of q that leads from one divisor to another, by Cramer's rule, and whether there is one.
func scriptSlowly(g impl.Graph, from []int, to []int, q int) ([]int, bool) {
	lost := make([]int, g.N)
	for v := range lost {
		lost[v] = from[v] - to[v]
	}
	if impl.DegreeOf(lost) != 0 {
		return nil, false
	}
	lost = slices.Delete(lost, q, q+1)
	m := impl.ReducedLaplacian(g, q)
	trees := impl.Determinant(m)
	script := make([]int, len(lost))
	for i := range script {
		replaced := copyMatrix(m)
		for row := range replaced {
			replaced[row][i] = lost[row]
		}
		times := impl.Determinant(replaced)
		if times%trees != 0 {
			return nil, false
		}
		script[i] = times / trees
	}
	return slices.Insert(script, q, 0), true
}

// divisorsOf returns divisors of a graph with n vertices: small ones, any ones, and some with the greatest numbers of chips and debts.
func divisorsOf(n int) [][]int {
	all := append(listsOf(6, n, 1), listsOf(6, n, 4)...)
	all = append(all, listsOf(4, n, 60)...)
	for _, signs := range listsOf(4, n, 1) {
		d := make([]int, n)
		for v, sign := range signs {
			d[v] = 60 * sign
		}
		all = append(all, d)
	}
	return append(all, make([]int, n), slices.Repeat([]int{60}, n), slices.Repeat([]int{-60}, n))
}

// boxOf returns all lists of n ints from low to high.
func boxOf(n int, low int, high int) [][]int {
	all := [][]int{nil}
	for range n {
		var next [][]int
		for _, l := range all {
			for x := low; x <= high; x++ {
				next = append(next, append(slices.Clone(l), x))
			}
		}
		all = next
	}
	return all
}

// eachReduction calls check with valid arguments of every kind: many graphs, each of their vertices, and divisors.
func eachReduction(check func(g impl.Graph, d []int, q int)) {
	for _, g := range someGraphs() {
		for q := range g.N {
			for _, d := range divisorsOf(g.N) {
				check(g, d, q)
			}
		}
	}
	for k, g := range goodGraphs() {
		all := divisorsOf(g.N)
		for i := range 3 {
			check(g, all[(3*k+i)%len(all)], (k+i)%g.N)
		}
	}
	for _, g := range []impl.Graph{parallel(1), parallel(3), graphOf(3, 0, 1, 0, 1, 0, 2, 1, 2), graphOf(3, 0, 2, 1, 2), completeGraph(3)} {
		for q := range g.N {
			for _, d := range boxOf(g.N, -2, 4) {
				check(g, d, q)
			}
		}
	}
}

// eachBadReduction calls check with arguments that BurnFrom does not accept, of every kind.
func eachBadReduction(check func(name string, g impl.Graph, d []int, q int)) {
	odd := append(oddInts(), 64, 256, 1<<32, -1<<32, 1<<32+1)
	for _, g := range someGraphs() {
		for name, d := range badLists(g.N, 60) {
			for q := range g.N {
				check(name, g, d, q)
			}
		}
		for _, q := range append(odd, g.N, g.N+1) {
			for _, d := range divisorsOf(g.N) {
				check("no such vertex", g, d, q)
			}
		}
	}
	for name, g := range badGraphs() {
		for _, n := range lengthsFor(g) {
			for _, q := range append(odd, 0, 1, 2, 5) {
				check(name, g, make([]int, n), q)
				check(name, g, slices.Repeat([]int{2}, n), q)
				check(name, g, slices.Repeat([]int{-2}, n), q)
			}
		}
	}
}

func TestBurnFrom(t *testing.T) {
	fat := graphOf(3, 0, 1, 0, 1, 0, 2, 1, 2)
	path := graphOf(3, 0, 1, 1, 2)
	long := graphOf(4, 0, 1, 1, 2, 2, 3)
	cases := []struct {
		g    impl.Graph
		d    []int
		q    int
		want []int
	}{
		{fat, []int{-2, 2, 0}, 0, []int{0, 2, 1}}, {fat, []int{60, 2, 0}, 0, []int{0, 2, 1}}, {fat, []int{-60, 2, 0}, 0, []int{0, 2, 1}},
		{fat, []int{0, 3, 0}, 0, []int{0, 2}}, {fat, []int{0, 2, 1}, 0, []int{0}}, {fat, []int{0, 1, 1}, 0, []int{0, 1, 2}},
		{fat, []int{0, 0, 0}, 1, []int{1, 0, 2}}, {fat, []int{2, 60, 0}, 1, []int{1, 2, 0}}, {fat, []int{2, 60, 1}, 1, []int{1}},
		{graphOf(1), []int{0}, 0, []int{0}}, {graphOf(1), []int{-60}, 0, []int{0}}, {graphOf(1), []int{60}, 0, []int{0}},
		{path, []int{0, 0, 0}, 0, []int{0, 1, 2}}, {path, []int{0, 0, 0}, 1, []int{1, 0, 2}}, {path, []int{0, 0, 0}, 2, []int{2, 1, 0}},
		{path, []int{0, 1, 0}, 0, []int{0}}, {path, []int{60, 0, -60}, 0, []int{0, 1, 2}},
		// A vertex in debt has fewer chips than edges to the fire even if there are none.
		{path, []int{0, 1, -1}, 0, []int{0, 2, 1}}, {path, []int{0, 2, -1}, 0, []int{0, 2}}, {path, []int{-1, 2, 0}, 2, []int{2, 0}},
		{long, []int{0, 5, -1, -1}, 0, []int{0, 2, 3}}, {long, []int{0, 1, 0, -1}, 0, []int{0, 3, 2, 1}},
		// After each vertex, the least one that can burn comes next, also below the last one.
		{completeGraph(4), []int{0, 0, 0, 0}, 2, []int{2, 0, 1, 3}}, {completeGraph(4), []int{1, 0, 2, 0}, 3, []int{3, 1, 0, 2}},
		{completeGraph(4), []int{2, 1, 0, 60}, 3, []int{3, 2, 1, 0}}, {completeGraph(4), []int{1, 0, 0, 60}, 3, []int{3, 1, 0, 2}},
		{completeGraph(4), []int{1, 1, 1, 0}, 3, []int{3}}, {completeGraph(4), []int{0, 2, 2, 0}, 0, []int{0, 3}},
		{parallel(12), []int{0, 11}, 0, []int{0, 1}}, {parallel(12), []int{0, 12}, 0, []int{0}}, {parallel(12), []int{60, 0}, 1, []int{1}},
	}
	for _, c := range cases {
		if got, ok := impl.BurnFrom(c.g, c.d, c.q); !ok || !slices.Equal(got, c.want) {
			t.Errorf("BurnFrom(%v, %v, %d) = %v, %v, want %v", c.g, c.d, c.q, got, ok, c.want)
		}
	}
}

// TestBurnFromIsExact compares BurnFrom with its definition, and checks that some fires stop early and some do not.
func TestBurnFromIsExact(t *testing.T) {
	ends := map[bool]int{}
	eachReduction(func(g impl.Graph, d []int, q int) {
		want := burnSlowly(g, d, q)
		got, ok := impl.BurnFrom(g, d, q)
		if !ok || !slices.Equal(got, want) {
			t.Fatalf("BurnFrom(%v, %v, %d) = %v, %v, want %v", g, d, q, got, ok, want)
		}
		ends[len(got) == g.N]++
	})
	if ends[true] < 1000 || ends[false] < 1000 {
		t.Errorf("all vertices burn %d times, and not all %d times", ends[true], ends[false])
	}
}

func TestIsReduced(t *testing.T) {
	fat := graphOf(3, 0, 1, 0, 1, 0, 2, 1, 2)
	path := graphOf(3, 0, 1, 1, 2)
	cases := []struct {
		g    impl.Graph
		d    []int
		q    int
		want bool
	}{
		{fat, []int{-2, 2, 0}, 0, true}, {fat, []int{0, 2, 0}, 0, true}, {fat, []int{-60, 2, 0}, 0, true}, {fat, []int{60, 2, 0}, 0, true},
		{fat, []int{0, 2, 1}, 0, false}, {fat, []int{0, 3, 0}, 0, false}, {fat, []int{0, 0, 2}, 0, false}, {fat, []int{0, 1, 1}, 0, true},
		// With debts beside q, all vertices may burn.
		{fat, []int{0, -1, 0}, 0, false}, {fat, []int{0, 0, -1}, 0, false}, {fat, []int{5, 0, -60}, 0, false}, {fat, []int{-1, 0, 0}, 1, false},
		{fat, []int{0, -5, 0}, 1, true}, {fat, []int{0, 0, -5}, 2, true}, {fat, []int{0, 0, -5}, 1, false},
		{graphOf(1), []int{0}, 0, true}, {graphOf(1), []int{60}, 0, true}, {graphOf(1), []int{-60}, 0, true},
		{path, []int{7, 0, 0}, 0, true}, {path, []int{7, 0, 0}, 1, false}, {path, []int{0, 0, 1}, 0, false}, {path, []int{0, -7, 0}, 1, true},
		{parallel(12), []int{0, 11}, 0, true}, {parallel(12), []int{0, 12}, 0, false}, {parallel(12), []int{11, 0}, 1, true},
		{completeGraph(4), []int{0, 2, 1, 0}, 0, true}, {completeGraph(4), []int{0, 1, 1, 1}, 0, false}, {completeGraph(4), []int{0, 2, 2, 0}, 0, false},
	}
	for _, c := range cases {
		if got := impl.IsReduced(c.g, c.d, c.q); got != c.want {
			t.Errorf("IsReduced(%v, %v, %d) = %v", c.g, c.d, c.q, got)
		}
	}
}

// TestIsReducedIsExact compares IsReduced with the definition, which asks for all sets of vertices.
func TestIsReducedIsExact(t *testing.T) {
	answers := map[bool]int{}
	check := func(g impl.Graph, d []int, q int) {
		want := reducedSlowly(g, d, q)
		if got := impl.IsReduced(g, d, q); got != want {
			t.Fatalf("IsReduced(%v, %v, %d) = %v", g, d, q, got)
		}
		answers[want]++
	}
	eachReduction(check)
	for _, g := range []impl.Graph{completeGraph(4), graphOf(4, 0, 1, 0, 1, 0, 2, 1, 2, 1, 2, 1, 2, 2, 3)} {
		for _, d := range boxOf(4, -1, 3) {
			check(g, d, 3)
			check(g, d, 1)
		}
	}
	if answers[true] < 500 || answers[false] < 500 {
		t.Errorf("%d divisors are reduced and %d are not", answers[true], answers[false])
	}
}

// reducingCase is a divisor with its reduced divisor and the script that leads there.
type reducingCase struct {
	g               impl.Graph
	d               []int
	q               int
	reduced, script []int
}

func reducingCases() []reducingCase {
	fat := graphOf(3, 0, 1, 0, 1, 0, 2, 1, 2)
	path := graphOf(3, 0, 1, 1, 2)
	six := graphOf(6, 0, 1, 1, 2, 2, 3, 3, 4, 4, 5)
	star := graphOf(5, 0, 4, 1, 4, 2, 4, 3, 4)
	return []reducingCase{
		{fat, []int{1, 0, -1}, 0, []int{-2, 2, 0}, []int{0, -1, -1}},
		{fat, []int{0, 2, 1}, 0, []int{3, 0, 0}, []int{0, 1, 1}},
		{fat, []int{0, 2, 0}, 0, []int{0, 2, 0}, []int{0, 0, 0}},
		{fat, []int{-60, 0, 0}, 0, []int{-60, 0, 0}, []int{0, 0, 0}},
		{graphOf(1), []int{7}, 0, []int{7}, []int{0}},
		{graphOf(1), []int{-60}, 0, []int{-60}, []int{0}},
		{completeGraph(3), []int{0, 2, 0}, 0, []int{1, 0, 1}, []int{0, 1, 0}},
		{completeGraph(3), []int{0, 1, 1}, 0, []int{2, 0, 0}, []int{0, 1, 1}},
		{parallel(1), []int{60, 60}, 0, []int{120, 0}, []int{0, 60}},
		{parallel(1), []int{60, 60}, 1, []int{0, 120}, []int{60, 0}},
		{parallel(1), []int{-60, -60}, 1, []int{0, -120}, []int{-60, 0}},
		{parallel(12), []int{60, 60}, 0, []int{120, 0}, []int{0, 5}},
		{parallel(12), []int{60, 59}, 0, []int{108, 11}, []int{0, 4}},
		{parallel(12), []int{0, -1}, 0, []int{-12, 11}, []int{0, -1}},
		{parallel(12), []int{0, -12}, 0, []int{-12, 0}, []int{0, -1}},
		{parallel(12), []int{0, -13}, 0, []int{-24, 11}, []int{0, -2}},
		{parallel(12), []int{-60, -60}, 0, []int{-120, 0}, []int{0, -5}},
		{path, []int{60, 60, 60}, 0, []int{180, 0, 0}, []int{0, 120, 180}},
		{path, []int{60, 60, 60}, 1, []int{0, 180, 0}, []int{60, 0, 60}},
		{path, []int{3, -2, 1}, 2, []int{0, 0, 2}, []int{4, 1, 0}},
		{star, []int{60, 60, 60, 60, 60}, 4, []int{0, 0, 0, 0, 300}, []int{60, 60, 60, 60, 0}},
		{star, []int{1, -2, 3, 0, 5}, 1, []int{0, 7, 0, 0, 0}, []int{10, 0, 12, 9, 9}},
		{six, []int{60, 60, 60, 60, 60, 60}, 0, []int{360, 0, 0, 0, 0, 0}, []int{0, 300, 540, 720, 840, 900}},
		{six, []int{-60, -60, -60, -60, -60, -60}, 5, []int{0, 0, 0, 0, 0, -360}, []int{-900, -840, -720, -540, -300, 0}},
	}
}

func TestReducedOf(t *testing.T) {
	for _, c := range reducingCases() {
		if got, ok := impl.ReducedOf(c.g, c.d, c.q); !ok || !slices.Equal(got, c.reduced) {
			t.Errorf("ReducedOf(%v, %v, %d) = %v, %v, want %v", c.g, c.d, c.q, got, ok, c.reduced)
		}
	}
}

func TestReducingScript(t *testing.T) {
	for _, c := range reducingCases() {
		if got, ok := impl.ReducingScript(c.g, c.d, c.q); !ok || !slices.Equal(got, c.script) {
			t.Errorf("ReducingScript(%v, %v, %d) = %v, %v, want %v", c.g, c.d, c.q, got, ok, c.script)
		}
	}
}

// TestReducingIsExact checks that ReducedOf is reduced by the definition, and that ReducingScript leads there, does not fire q and is the solution of the linear equations.
func TestReducingIsExact(t *testing.T) {
	eachReduction(func(g impl.Graph, d []int, q int) {
		reduced, ok := impl.ReducedOf(g, d, q)
		if !ok || len(reduced) != g.N || !reducedSlowly(g, reduced, q) {
			t.Fatalf("ReducedOf(%v, %v, %d) = %v, %v, which is not reduced", g, d, q, reduced, ok)
		}
		script, ok := impl.ReducingScript(g, d, q)
		if !ok || len(script) != g.N || script[q] != 0 || !slices.Equal(fireSlowly(g, d, script), reduced) {
			t.Fatalf("ReducingScript(%v, %v, %d) = %v, %v, which does not lead to %v", g, d, q, script, ok, reduced)
		}
		if want, ok := scriptSlowly(g, d, reduced, q); !ok || !slices.Equal(script, want) {
			t.Fatalf("ReducingScript(%v, %v, %d) = %v, want %v, %v", g, d, q, script, want, ok)
		}
	})
}

// TestExtremesAreReduced checks divisors with the greatest numbers of chips and debts in all combinations.
func TestExtremesAreReduced(t *testing.T) {
	for _, g := range someGraphs() {
		for _, signs := range boxOf(g.N, 0, 1) {
			d := make([]int, g.N)
			for v, sign := range signs {
				d[v] = 120*sign - 60
			}
			for q := range g.N {
				reduced, ok := impl.ReducedOf(g, d, q)
				script, fine := impl.ReducingScript(g, d, q)
				if !ok || !fine || !impl.ScriptOk(g, script) || script[q] != 0 {
					t.Fatalf("%v on %v with %d leads to %v, %v by %v, %v", d, g, q, reduced, ok, script, fine)
				}
				if !slices.Equal(fireSlowly(g, d, script), reduced) || !reducedSlowly(g, reduced, q) {
					t.Fatalf("ReducedOf(%v, %v, %d) = %v with the script %v", g, d, q, reduced, script)
				}
			}
		}
	}
}

// reducedDivisors returns all divisors of degree 0 that are q-reduced by the definition.
func reducedDivisors(g impl.Graph, q int) [][]int {
	all := [][]int{nil}
	for v := range g.N {
		most := 0
		if v != q {
			// A vertex with as many chips as edges can fire alone.
			most = edgesToSlowly(g, v, orderOf(g.N)) - 1
		}
		var next [][]int
		for _, l := range all {
			for x := range most + 1 {
				next = append(next, append(slices.Clone(l), x))
			}
		}
		all = next
	}
	for _, d := range all {
		d[q] = -impl.DegreeOf(d)
	}
	return slices.DeleteFunc(all, func(d []int) bool { return !reducedSlowly(g, d, q) })
}

// TestClassesHaveOneReducedDivisor checks that there are as many reduced divisors of degree 0 as classes, that each of them is its own, that no script joins two of them, and that every divisor leads to one of them.
func TestClassesHaveOneReducedDivisor(t *testing.T) {
	for _, g := range someGraphs() {
		for q := range g.N {
			all := reducedDivisors(g, q)
			if len(all) != impl.CountTrees(g) {
				t.Fatalf("%v has %d reduced divisors for %d", g, len(all), q)
			}
			for i, d := range all {
				reduced, ok := impl.ReducedOf(g, d, q)
				script, fine := impl.ReducingScript(g, d, q)
				if !ok || !fine || !slices.Equal(reduced, d) || !slices.Equal(script, make([]int, g.N)) {
					t.Fatalf("the reduced divisor %v of %v for %d leads to %v by %v", d, g, q, reduced, script)
				}
				for _, other := range all[:min(i, 20)] {
					if s, ok := scriptSlowly(g, d, other, q); ok {
						t.Fatalf("the script %v joins the reduced divisors %v and %v of %v", s, d, other, g)
					}
				}
			}
			for _, d := range divisorsOf(g.N) {
				reduced, _ := impl.ReducedOf(g, d, q)
				reduced[q] -= impl.DegreeOf(d)
				if !slices.ContainsFunc(all, func(one []int) bool { return slices.Equal(one, reduced) }) {
					t.Fatalf("%v on %v leads to the class of %v for %d", d, g, reduced, q)
				}
			}
		}
	}
}

// TestFiringKeepsReducedDivisor checks that a divisor and those that are reached from it have the same reduced divisor and the same degree.
func TestFiringKeepsReducedDivisor(t *testing.T) {
	count := 0
	check := func(g impl.Graph, d []int, s []int, q int) {
		after, ok := impl.FireScript(g, d, s)
		if !ok || !impl.DivisorOk(g, after) {
			return
		}
		count++
		one, ok := impl.ReducedOf(g, d, q)
		other, fine := impl.ReducedOf(g, after, q)
		if !ok || !fine || !impl.SameDivisor(one, other) || impl.DegreeOf(one) != impl.DegreeOf(d) {
			t.Fatalf("%v and %v on %v have the reduced divisors %v and %v for %d", d, after, g, one, other, q)
		}
	}
	for k, g := range goodGraphs() {
		for i, s := range listsOf(4, g.N, 2) {
			check(g, listsOf(4, g.N, 10)[i], s, (k+i)%g.N)
		}
	}
	for _, g := range someGraphs() {
		for q := range g.N {
			for i, s := range listsOf(40, g.N, 4) {
				check(g, listsOf(40, g.N, 30)[i], s, q)
			}
		}
	}
	if count < 2000 {
		t.Errorf("only %d scripts lead to valid divisors", count)
	}
}

// TestReducedDivisorsSeparateClasses checks that two divisors have the same reduced divisor exactly if a script leads from one to the other.
func TestReducedDivisorsSeparateClasses(t *testing.T) {
	for _, g := range []impl.Graph{graphOf(3, 0, 1, 0, 1, 0, 2, 1, 2), completeGraph(4), parallel(3)} {
		answers := map[bool]int{}
		for _, d := range listsOf(60, g.N, 3) {
			for _, rest := range boxOf(g.N-1, -2, 2) {
				other := append(slices.Clone(rest), impl.DegreeOf(d)-impl.DegreeOf(rest))
				one, _ := impl.ReducedOf(g, d, 1)
				two, _ := impl.ReducedOf(g, other, 1)
				_, joined := scriptSlowly(g, d, other, 1)
				if impl.SameDivisor(one, two) != joined {
					t.Fatalf("%v and %v on %v have the reduced divisors %v and %v", d, other, g, one, two)
				}
				answers[joined]++
			}
		}
		if answers[true] < 50 || answers[false] < 50 {
			t.Errorf("%d pairs on %v are equivalent and %d are not", answers[true], g, answers[false])
		}
	}
}

func TestMostLegalSet(t *testing.T) {
	fat := graphOf(3, 0, 1, 0, 1, 0, 2, 1, 2)
	path := graphOf(3, 0, 1, 1, 2)
	cases := []struct {
		g    impl.Graph
		d    []int
		q    int
		want []int
	}{
		{fat, []int{0, 2, 1}, 0, []int{1, 2}}, {fat, []int{-60, 2, 1}, 0, []int{1, 2}}, {fat, []int{60, 60, 60}, 0, []int{1, 2}},
		{fat, []int{0, 3, 0}, 0, []int{1}}, {fat, []int{0, 0, 2}, 0, []int{2}}, {fat, []int{1, 1, 0}, 2, []int{0, 1}},
		{fat, []int{1, 1, -1}, 2, []int{0, 1}}, {fat, []int{0, 2, 0}, 0, nil}, {fat, []int{0, 0, 0}, 1, nil},
		// A debt beside q leaves nothing, even if some vertices do not burn.
		{fat, []int{0, 9, -1}, 0, nil}, {fat, []int{0, -1, 9}, 0, nil}, {fat, []int{-1, 60, 60}, 1, nil}, {path, []int{0, 60, -1}, 0, nil},
		{path, []int{0, 1, 0}, 0, []int{1, 2}}, {path, []int{0, 0, 1}, 0, []int{2}}, {path, []int{1, 0, 1}, 1, []int{0, 2}},
		{graphOf(1), []int{0}, 0, nil}, {graphOf(1), []int{60}, 0, nil}, {graphOf(1), []int{-60}, 0, nil},
		{parallel(12), []int{12, 0}, 1, []int{0}}, {parallel(12), []int{11, 0}, 1, nil},
		{completeGraph(4), []int{1, 1, 1, 0}, 3, []int{0, 1, 2}}, {completeGraph(4), []int{2, 0, 2, 0}, 3, []int{0, 2}},
		{completeGraph(4), []int{3, 0, 1, 0}, 3, []int{0}}, {completeGraph(4), []int{0, 2, 1, 0}, 0, nil},
	}
	for _, c := range cases {
		if got := impl.MostLegalSet(c.g, c.d, c.q); !slices.Equal(got, c.want) {
			t.Errorf("MostLegalSet(%v, %v, %d) = %v, want %v", c.g, c.d, c.q, got, c.want)
		}
	}
}

// TestMostLegalSetIsExact checks that MostLegalSet is legal and contains every other legal set.
func TestMostLegalSetIsExact(t *testing.T) {
	answers := map[bool]int{}
	eachReduction(func(g impl.Graph, d []int, q int) {
		d = slices.Clone(d)
		if g.N%2 == 0 || d[0] > 1 {
			// Most divisors have a debt somewhere, for which the answer is always the same.
			for v := range d {
				d[v] = max(d[v], -d[v])
			}
			d[q] = -d[q]
		}
		var want []int
		for _, set := range setsWithout(g.N, q) {
			if !debtBeside(d, q) && legalSlowly(g, d, set) {
				want = append(want, set...)
			}
		}
		slices.Sort(want)
		want = slices.Compact(want)
		got := impl.MostLegalSet(g, d, q)
		if !slices.Equal(got, want) || !debtBeside(d, q) && !impl.IsLegalSet(g, d, got) {
			t.Fatalf("MostLegalSet(%v, %v, %d) = %v, want %v", g, d, q, got, want)
		}
		answers[len(got) > 0]++
	})
	if answers[true] < 500 || answers[false] < 500 {
		t.Errorf("%d sets are not empty and %d are", answers[true], answers[false])
	}
}

func TestChipsAt(t *testing.T) {
	for _, c := range reducingCases() {
		if got, ok := impl.ChipsAt(c.g, c.d, c.q); !ok || got != c.reduced[c.q] {
			t.Errorf("ChipsAt(%v, %v, %d) = %d, %v, want %d", c.g, c.d, c.q, got, ok, c.reduced[c.q])
		}
	}
	eachReduction(func(g impl.Graph, d []int, q int) {
		reduced, _ := impl.ReducedOf(g, d, q)
		if got, ok := impl.ChipsAt(g, d, q); !ok || got != reduced[q] {
			t.Fatalf("ChipsAt(%v, %v, %d) = %d, %v, but ReducedOf is %v", g, d, q, got, ok, reduced)
		}
	})
}

// TestChipsAtIsGreatest compares ChipsAt with the divisors that are reached from a small one by small scripts.
func TestChipsAtIsGreatest(t *testing.T) {
	graphs := append(multigraphs(2, 3), multigraphs(3, 2)...)
	graphs = append(graphs, graphOf(4, 0, 1, 0, 2, 1, 2, 2, 3), completeGraph(4))
	for _, g := range graphs {
		for _, d := range listsOf(8, g.N, 2) {
			for q := range g.N {
				most := math.MinInt
				for _, s := range boxOf(g.N-1, -7, 7) {
					after := fireSlowly(g, d, slices.Insert(s, q, 0))
					if !debtBeside(after, q) {
						most = max(most, after[q])
					}
				}
				if got, ok := impl.ChipsAt(g, d, q); !ok || got != most {
					t.Fatalf("ChipsAt(%v, %v, %d) = %d, %v, want %d", g, d, q, got, ok, most)
				}
			}
		}
	}
}

func TestReducingRejects(t *testing.T) {
	eachBadReduction(func(name string, g impl.Graph, d []int, q int) {
		if got, ok := impl.BurnFrom(g, d, q); ok || len(got) != 0 {
			t.Errorf("%s: BurnFrom(%v, %v, %d) = %v, %v", name, g, d, q, got, ok)
		}
		if impl.IsReduced(g, d, q) {
			t.Errorf("%s: IsReduced(%v, %v, %d) = true", name, g, d, q)
		}
		if got, ok := impl.ReducedOf(g, d, q); ok || len(got) != 0 {
			t.Errorf("%s: ReducedOf(%v, %v, %d) = %v, %v", name, g, d, q, got, ok)
		}
		if got, ok := impl.ReducingScript(g, d, q); ok || len(got) != 0 {
			t.Errorf("%s: ReducingScript(%v, %v, %d) = %v, %v", name, g, d, q, got, ok)
		}
		if got := impl.MostLegalSet(g, d, q); len(got) != 0 {
			t.Errorf("%s: MostLegalSet(%v, %v, %d) = %v", name, g, d, q, got)
		}
		if got, ok := impl.ChipsAt(g, d, q); ok || got != 0 {
			t.Errorf("%s: ChipsAt(%v, %v, %d) = %d, %v", name, g, d, q, got, ok)
		}
	})
}

// reduceAnswers returns the answers of all functions of the chapter, as text.
func reduceAnswers(g impl.Graph, d []int, q int) string {
	burnt, burnOk := impl.BurnFrom(g, d, q)
	reduced, reduceOk := impl.ReducedOf(g, d, q)
	script, scriptOk := impl.ReducingScript(g, d, q)
	chips, chipsOk := impl.ChipsAt(g, d, q)
	return fmt.Sprint(
		burnt, burnOk, impl.IsReduced(g, d, q), reduced, reduceOk, script, scriptOk, impl.MostLegalSet(g, d, q), chips, chipsOk,
	)
}

// TestReducingArgumentsAreKept checks that no function changes its arguments or the memory behind them, and that a second call answers the same.
func TestReducingArgumentsAreKept(t *testing.T) {
	check := func(g impl.Graph, d []int, q int) {
		checkKept(t, g, d, nil, func(g impl.Graph, d []int, _ []int) string { return reduceAnswers(g, d, q) })
	}
	eachReduction(check)
	for _, g := range badGraphs() {
		for _, n := range lengthsFor(g) {
			check(g, slices.Repeat([]int{2}, n), 0)
		}
	}
	for _, d := range wildLists() {
		check(completeGraph(4), d, 2)
	}
}

// TestReducingResultsAreNew checks that results share no memory with arguments or with each other.
func TestReducingResultsAreNew(t *testing.T) {
	for _, g := range someGraphs() {
		for q := range g.N {
			zero := make([]int, g.N)
			full := slices.Repeat([]int{12}, g.N)
			for _, d := range append(listsOf(3, g.N, 9), zero, full) {
				burn := func(a []int, b []int) ([]int, bool) { return impl.BurnFrom(g, a, q) }
				reduce := func(a []int, b []int) ([]int, bool) { return impl.ReducedOf(g, a, q) }
				script := func(a []int, b []int) ([]int, bool) { return impl.ReducingScript(g, a, q) }
				legal := func(a []int, b []int) ([]int, bool) { return impl.MostLegalSet(g, a, q), true }
				for _, call := range []func([]int, []int) ([]int, bool){burn, reduce, script, legal} {
					checkCombination(t, d, nil, call)
				}
			}
		}
	}
}
