package tests

import (
	"fmt"
	"math"
	"slices"
	"testing"

	"loop.example/g00841/impl"
)

// octahedron is the graph with the greatest group of all: no other one with at most six vertices and twelve edges has as many spanning trees. So there is none at the limit for ClassesOf or beyond it.
func octahedron() impl.Graph {
	return graphOf(6, 0, 1, 0, 2, 0, 3, 0, 4, 1, 2, 1, 4, 1, 5, 2, 3, 2, 5, 3, 4, 3, 5, 4, 5)
}

// fatTriangle is a triangle with two edges between 0 and 1.
func fatTriangle() impl.Graph {
	return graphOf(3, 0, 1, 0, 1, 0, 2, 1, 2)
}

// levelDivisors returns valid divisors of degree 0 with n vertices: small ones, any ones, and some with the greatest numbers of chips and debts.
func levelDivisors(n int) [][]int {
	all := [][]int{make([]int, n)}
	for v := range n {
		for w := range n {
			for _, most := range []int{1, 7, 60} {
				d := make([]int, n)
				d[v] += most
				d[w] -= most
				all = append(all, d)
			}
		}
	}
	for k, d := range append(divisorsOf(n), listsOf(10, n, 20)...) {
		d[k%n] -= impl.DegreeOf(d)
		all = append(all, d)
	}
	full := slices.Repeat([]int{60, -60}, 3)[:n/2*2]
	all = append(all, append(full, make([]int, n%2)...))
	return slices.DeleteFunc(all, func(d []int) bool { return !within(d) })
}

// groupGraphs returns a few graphs of every size with groups of every kind.
func groupGraphs() []impl.Graph {
	return append(someGraphs(), pendant(), parallel(2), parallel(5), completeGraph(3), completeGraph(4),
		graphOf(3, 0, 1, 0, 1, 0, 2, 0, 2), graphOf(3, 0, 1, 0, 1, 0, 1, 0, 1, 1, 2, 1, 2, 1, 2, 1, 2, 1, 2, 1, 2),
		graphOf(4, 0, 1, 0, 1, 1, 2, 1, 2, 2, 3, 2, 3), graphOf(5, 0, 1, 0, 4, 1, 2, 2, 3, 3, 4),
		graphOf(6, 0, 3, 0, 4, 0, 5, 1, 3, 1, 4, 1, 5, 2, 3, 2, 4, 2, 5))
}

// sparseGraphs returns one of each step good graphs.
func sparseGraphs(step int) []impl.Graph {
	var all []impl.Graph
	for k, g := range goodGraphs() {
		if k%step == 0 {
			all = append(all, g)
		}
	}
	return all
}

// classChecker returns a function that checks that a list is the representative of the class of degree 0 in which a divisor is, by the definitions and without firing.
func classChecker(t *testing.T, g impl.Graph) func(name string, got []int, ok bool, want []int) {
	class := classesOf(g)
	known := map[string]bool{}
	return func(name string, got []int, ok bool, want []int) {
		t.Helper()
		if !ok || len(got) != g.N || impl.DegreeOf(got) != 0 || class(got) != class(want) {
			t.Fatalf("%s on %v = %v, %v", name, g, got, ok)
		}
		// Most of the lists come often, and the definition takes long.
		if text := fmt.Sprint(got); !known[text] {
			known[text] = reducedSlowly(g, got, 0)
			if !known[text] {
				t.Fatalf("%s on %v = %v, which is not reduced", name, g, got)
			}
		}
	}
}

// times returns a list of n times each element.
func times(d []int, n int) []int {
	l := slices.Clone(d)
	for v := range l {
		l[v] *= n
	}
	return l
}

// orderSlowly returns the least positive n for which n times d is in the class of 0.
func orderSlowly(class func([]int) classKey, d []int) int {
	n := 1
	for class(times(d, n)) != (classKey{}) {
		n++
	}
	return n
}

func TestGroupConstants(t *testing.T) {
	if impl.MaxOrder != 400 {
		t.Errorf("MaxOrder = %d", impl.MaxOrder)
	}
}

// groupCase is a graph with the order and the factors of its group.
type groupCase struct {
	g       impl.Graph
	order   int
	factors []int
}

func groupCases() []groupCase {
	return []groupCase{
		{graphOf(1), 1, nil}, {parallel(1), 1, nil}, {parallel(2), 2, []int{2}}, {parallel(12), 12, []int{12}},
		{fatTriangle(), 5, []int{5}}, {completeGraph(3), 3, []int{3}}, {completeGraph(4), 16, []int{4, 4}}, {completeGraph(5), 125, []int{5, 5, 5}},
		{graphOf(3, 0, 1, 1, 2), 1, nil}, {graphOf(6, 0, 5, 1, 5, 2, 5, 3, 5, 4, 5), 1, nil},
		{graphOf(3, 0, 1, 0, 1, 0, 2, 0, 2), 4, []int{2, 2}}, {graphOf(3, 0, 1, 0, 1, 0, 1, 0, 2, 0, 2), 6, []int{6}},
		{graphOf(3, 0, 1, 0, 1, 0, 1, 0, 1, 1, 2, 1, 2, 1, 2, 1, 2, 1, 2, 1, 2), 24, []int{2, 12}},
		{graphOf(4, 0, 1, 0, 1, 1, 2, 1, 2, 2, 3, 2, 3), 8, []int{2, 2, 2}}, {graphOf(5, 0, 1, 0, 4, 1, 2, 2, 3, 3, 4), 5, []int{5}},
		{graphOf(6, 0, 1, 0, 2, 1, 2, 2, 3, 3, 4, 3, 5, 4, 5), 9, []int{3, 3}}, {graphOf(6, 0, 3, 0, 4, 0, 5, 1, 3, 1, 4, 1, 5, 2, 3, 2, 4, 2, 5), 81, []int{3, 3, 9}},
		{graphOf(6, 0, 1, 0, 1, 1, 2, 1, 2, 2, 3, 2, 3, 3, 4, 3, 4, 4, 5, 4, 5), 32, []int{2, 2, 2, 2, 2}},
		{octahedron(), 384, []int{2, 8, 24}}, {pendant(), 7, []int{7}},
	}
}

func TestGroupCases(t *testing.T) {
	for _, c := range groupCases() {
		if got := impl.GroupOrder(c.g); got != c.order {
			t.Errorf("GroupOrder(%v) = %d, want %d", c.g, got, c.order)
		}
		if got := impl.GroupFactors(c.g); !slices.Equal(got, c.factors) {
			t.Errorf("GroupFactors(%v) = %v, want %v", c.g, got, c.factors)
		}
		if got := impl.IsCyclic(c.g); got != (len(c.factors) < 2) {
			t.Errorf("IsCyclic(%v) = %v", c.g, got)
		}
		if got, ok := impl.ClassesOf(c.g); !ok || len(got) != c.order {
			t.Errorf("ClassesOf(%v) has %d elements, %v", c.g, len(got), ok)
		}
	}
}

func TestGroupRejectsGraphs(t *testing.T) {
	for name, g := range badGraphs() {
		if got := impl.GroupOrder(g); got != 0 {
			t.Errorf("%s: GroupOrder(%v) = %d", name, g, got)
		}
		if got := impl.GroupFactors(g); len(got) != 0 {
			t.Errorf("%s: GroupFactors(%v) = %v", name, g, got)
		}
		if impl.IsCyclic(g) {
			t.Errorf("%s: IsCyclic(%v) = true", name, g)
		}
		if got, ok := impl.ClassesOf(g); ok || len(got) != 0 {
			t.Errorf("%s: ClassesOf(%v) = %v, %v", name, g, got, ok)
		}
	}
}

// TestFactorsAreExact compares the order with the count of spanning trees and the factors with the normal form that row and column operations lead to.
func TestFactorsAreExact(t *testing.T) {
	cyclic := map[bool]int{}
	for _, g := range append(groupGraphs(), sparseGraphs(3)...) {
		trees := countTreesSlowly(g)
		if got := impl.GroupOrder(g); got != trees {
			t.Fatalf("GroupOrder(%v) = %d, want %d", g, got, trees)
		}
		m := impl.ReducedLaplacian(g, 0)
		want := slices.DeleteFunc(smithSlowly(m), func(d int) bool { return d == 1 })
		if got := impl.GroupFactors(g); !slices.Equal(got, want) {
			t.Fatalf("GroupFactors(%v) = %v, want %v", g, got, want)
		}
		if got := impl.IsCyclic(g); got != (len(want) < 2) {
			t.Fatalf("IsCyclic(%v) = %v, and the factors are %v", g, got, want)
		}
		cyclic[len(want) < 2]++
	}
	if cyclic[true] < 100 || cyclic[false] < 100 {
		t.Errorf("%d groups are cyclic and %d are not", cyclic[true], cyclic[false])
	}
}

// commonSlowly returns the greatest number that divides both of two positive ones.
func commonSlowly(a int, b int) int {
	d := min(a, b)
	for a%d != 0 || b%d != 0 {
		d--
	}
	return d
}

// TestGroupIsProduct checks that the group is the product of cyclic groups of the factors: for every n, so many classes are 0 if they are taken n times as in this product. The group is cyclic exactly if a class has its order.
func TestGroupIsProduct(t *testing.T) {
	check := func(g impl.Graph) {
		classes, _ := impl.ClassesOf(g)
		order, factors := impl.GroupOrder(g), impl.GroupFactors(g)
		counts := map[int]int{}
		for _, d := range classes {
			counts[impl.OrderOf(g, d)]++
		}
		for n := 1; n <= order; n++ {
			want, got := 1, 0
			for _, f := range factors {
				want *= commonSlowly(f, n)
			}
			for k, count := range counts {
				if n%k == 0 {
					got += count
				}
			}
			if got != want {
				t.Fatalf("%d classes on %v are 0 if taken %d times, and the factors are %v", got, g, n, factors)
			}
		}
		if impl.IsCyclic(g) != (counts[order] > 0) {
			t.Fatalf("%d classes on %v have the order %d of the group", counts[order], g, order)
		}
	}
	for _, g := range append(groupGraphs(), sparseGraphs(20)...) {
		check(g)
	}
}

func TestClassesOf(t *testing.T) {
	for _, c := range []struct {
		g    impl.Graph
		want [][]int
	}{
		{graphOf(1), [][]int{{0}}}, {parallel(1), [][]int{{0, 0}}}, {parallel(3), [][]int{{-2, 2}, {-1, 1}, {0, 0}}},
		{graphOf(3, 0, 2, 1, 2), [][]int{{0, 0, 0}}}, {completeGraph(3), [][]int{{-1, 0, 1}, {-1, 1, 0}, {0, 0, 0}}},
		{fatTriangle(), [][]int{{-2, 1, 1}, {-2, 2, 0}, {-1, 0, 1}, {-1, 1, 0}, {0, 0, 0}}},
		{pendant(), [][]int{{-6, 6, 0}, {-5, 5, 0}, {-4, 4, 0}, {-3, 3, 0}, {-2, 2, 0}, {-1, 1, 0}, {0, 0, 0}}},
		{completeGraph(4), [][]int{
			{-3, 0, 1, 2}, {-3, 0, 2, 1}, {-3, 1, 0, 2}, {-3, 1, 2, 0}, {-3, 2, 0, 1}, {-3, 2, 1, 0},
			{-2, 0, 0, 2}, {-2, 0, 1, 1}, {-2, 0, 2, 0}, {-2, 1, 0, 1}, {-2, 1, 1, 0}, {-2, 2, 0, 0},
			{-1, 0, 0, 1}, {-1, 0, 1, 0}, {-1, 1, 0, 0}, {0, 0, 0, 0},
		}},
	} {
		if got, ok := impl.ClassesOf(c.g); !ok || !sameMatrix(got, c.want) {
			t.Errorf("ClassesOf(%v) = %v, %v, want %v", c.g, got, ok, c.want)
		}
	}
}

// TestClassesAreExact compares the list with all reduced divisors of degree 0, and checks that there are as many as spanning trees and that no two are equivalent.
func TestClassesAreExact(t *testing.T) {
	for _, g := range append(groupGraphs(), sparseGraphs(50)...) {
		want := reducedDivisors(g, 0)
		slices.SortFunc(want, slices.Compare[[]int])
		got, ok := impl.ClassesOf(g)
		if !ok || !sameMatrix(got, want) || len(got) != impl.GroupOrder(g) {
			t.Fatalf("ClassesOf(%v) = %v, %v, want %v", g, got, ok, want)
		}
		class, seen := classesOf(g), map[classKey]bool{}
		for _, d := range got {
			if seen[class(d)] {
				t.Fatalf("the class of %v is twice in the list for %v", d, g)
			}
			seen[class(d)] = true
		}
	}
}

func TestSums(t *testing.T) {
	fat := fatTriangle()
	for _, c := range []struct {
		g          impl.Graph
		a, b, want []int
	}{
		{fat, []int{1, 0, -1}, []int{1, 0, -1}, []int{-2, 1, 1}}, {fat, []int{1, 0, -1}, []int{-1, 0, 1}, []int{0, 0, 0}}, {fat, []int{0, 0, 0}, []int{0, 0, 0}, []int{0, 0, 0}},
		{fat, []int{5, 0, -5}, []int{-1, 0, 1}, []int{-1, 0, 1}}, {fat, []int{-2, 1, 1}, []int{-1, 1, 0}, []int{0, 0, 0}}, {fat, []int{60, 0, -60}, []int{60, 0, -60}, []int{0, 0, 0}},
		{fat, []int{59, 0, -59}, []int{59, 0, -59}, []int{-1, 1, 0}}, {fat, []int{-60, 60, 0}, []int{-60, 59, 1}, []int{-2, 2, 0}},
		{graphOf(1), []int{0}, []int{0}, []int{0}}, {parallel(1), []int{60, -60}, []int{60, -60}, []int{0, 0}},
		{parallel(12), []int{-60, 60}, []int{-60, 60}, []int{0, 0}}, {parallel(12), []int{-59, 59}, []int{-60, 60}, []int{-11, 11}}, {parallel(12), []int{1, -1}, []int{0, 0}, []int{-11, 11}},
		{completeGraph(4), []int{-1, 1, 0, 0}, []int{-1, 0, 1, 0}, []int{-2, 1, 1, 0}}, {completeGraph(4), []int{-3, 1, 2, 0}, []int{-3, 2, 1, 0}, []int{-1, 0, 0, 1}},
	} {
		for range 2 {
			if got, ok := impl.SumOfClasses(c.g, c.a, c.b); !ok || !slices.Equal(got, c.want) {
				t.Errorf("SumOfClasses(%v, %v, %v) = %v, %v, want %v", c.g, c.a, c.b, got, ok, c.want)
			}
			c.a, c.b = c.b, c.a
		}
	}
}

func TestInverses(t *testing.T) {
	for _, c := range []struct {
		g       impl.Graph
		a, want []int
	}{
		{fatTriangle(), []int{1, 0, -1}, []int{-1, 0, 1}}, {fatTriangle(), []int{-1, 0, 1}, []int{-2, 2, 0}}, {fatTriangle(), []int{-2, 1, 1}, []int{-1, 1, 0}}, {fatTriangle(), []int{0, 0, 0}, []int{0, 0, 0}},
		{graphOf(1), []int{0}, []int{0}}, {parallel(1), []int{-60, 60}, []int{0, 0}}, {parallel(2), []int{-1, 1}, []int{-1, 1}}, {parallel(12), []int{-59, 59}, []int{-1, 1}}, {parallel(12), []int{59, -59}, []int{-11, 11}},
		{completeGraph(4), []int{-1, 1, 0, 0}, []int{-2, 0, 1, 1}}, {completeGraph(4), []int{-2, 0, 1, 1}, []int{-1, 1, 0, 0}},
	} {
		if got, ok := impl.InverseClass(c.g, c.a); !ok || !slices.Equal(got, c.want) {
			t.Errorf("InverseClass(%v, %v) = %v, %v, want %v", c.g, c.a, got, ok, c.want)
		}
	}
}

func TestMultiples(t *testing.T) {
	fat := fatTriangle()
	for _, c := range []struct {
		g    impl.Graph
		a    []int
		n    int
		want []int
	}{
		{fat, []int{1, 0, -1}, -1, []int{-1, 0, 1}}, {fat, []int{1, 0, -1}, 0, []int{0, 0, 0}}, {fat, []int{1, 0, -1}, 1, []int{-2, 2, 0}}, {fat, []int{1, 0, -1}, 2, []int{-2, 1, 1}},
		{fat, []int{1, 0, -1}, 3, []int{-1, 1, 0}}, {fat, []int{1, 0, -1}, 4, []int{-1, 0, 1}}, {fat, []int{1, 0, -1}, 5, []int{0, 0, 0}},
		{fat, []int{1, 0, -1}, 1000, []int{0, 0, 0}}, {fat, []int{1, 0, -1}, 999, []int{-1, 0, 1}}, {fat, []int{1, 0, -1}, -1000, []int{0, 0, 0}}, {fat, []int{1, 0, -1}, -999, []int{-2, 2, 0}},
		{fat, []int{0, 0, 0}, 1000, []int{0, 0, 0}}, {fat, []int{60, -59, -1}, -1000, []int{0, 0, 0}}, {fat, []int{60, -59, -1}, 0, []int{0, 0, 0}},
		{graphOf(1), []int{0}, 1000, []int{0}}, {graphOf(1), []int{0}, -1000, []int{0}}, {graphOf(1), []int{0}, 0, []int{0}}, {parallel(1), []int{60, -60}, 1000, []int{0, 0}},
		{parallel(12), []int{-1, 1}, 1000, []int{-4, 4}}, {parallel(12), []int{-1, 1}, -1000, []int{-8, 8}}, {parallel(12), []int{-59, 59}, 1000, []int{-8, 8}}, {parallel(12), []int{-60, 60}, 999, []int{0, 0}},
		{completeGraph(4), []int{-1, 1, 0, 0}, 4, []int{0, 0, 0, 0}}, {completeGraph(4), []int{-1, 1, 0, 0}, 997, []int{-1, 1, 0, 0}},
	} {
		if got, ok := impl.TimesClass(c.g, c.a, c.n); !ok || !slices.Equal(got, c.want) {
			t.Errorf("TimesClass(%v, %v, %d) = %v, %v, want %v", c.g, c.a, c.n, got, ok, c.want)
		}
	}
}

func TestOrders(t *testing.T) {
	for _, c := range []struct {
		g    impl.Graph
		a    []int
		want int
	}{
		{fatTriangle(), []int{1, 0, -1}, 5}, {fatTriangle(), []int{0, 0, 0}, 1}, {fatTriangle(), []int{5, 0, -5}, 1}, {fatTriangle(), []int{60, 0, -60}, 1}, {fatTriangle(), []int{60, -59, -1}, 5},
		{graphOf(1), []int{0}, 1}, {parallel(1), []int{60, -60}, 1}, {parallel(2), []int{1, -1}, 2},
		{parallel(12), []int{1, -1}, 12}, {parallel(12), []int{2, -2}, 6}, {parallel(12), []int{3, -3}, 4}, {parallel(12), []int{-4, 4}, 3}, {parallel(12), []int{-6, 6}, 2}, {parallel(12), []int{60, -60}, 1}, {parallel(12), []int{-59, 59}, 12},
		{completeGraph(4), []int{-1, 1, 0, 0}, 4}, {completeGraph(4), []int{-2, 2, 0, 0}, 2}, {completeGraph(5), []int{1, -1, 0, 0, 0}, 5},
		{octahedron(), []int{-1, 1, 0, 0, 0, 0}, 24}, {graphOf(5, 0, 4, 1, 4, 2, 4, 3, 4), []int{60, -60, 60, -60, 0}, 1},
	} {
		if got := impl.OrderOf(c.g, c.a); got != c.want {
			t.Errorf("OrderOf(%v, %v) = %d, want %d", c.g, c.a, got, c.want)
		}
	}
}

func TestDifferences(t *testing.T) {
	fat := fatTriangle()
	for _, c := range []struct {
		g    impl.Graph
		v, w int
		want []int
	}{
		{fat, 2, 0, []int{-1, 0, 1}}, {fat, 0, 2, []int{-2, 2, 0}}, {fat, 1, 0, []int{-1, 1, 0}}, {fat, 0, 1, []int{-2, 1, 1}}, {fat, 1, 2, []int{-1, 0, 1}}, {fat, 2, 1, []int{-2, 2, 0}}, {fat, 1, 1, []int{0, 0, 0}},
		{graphOf(1), 0, 0, []int{0}}, {parallel(1), 0, 1, []int{0, 0}}, {parallel(12), 0, 1, []int{-11, 11}}, {parallel(12), 1, 0, []int{-1, 1}}, {parallel(12), 1, 1, []int{0, 0}},
		{graphOf(6, 0, 5, 1, 5, 2, 5, 3, 5, 4, 5), 2, 4, []int{0, 0, 0, 0, 0, 0}}, {octahedron(), 5, 0, []int{-1, 0, 0, 0, 0, 1}},
	} {
		if got, ok := impl.DifferenceClass(c.g, c.v, c.w); !ok || !slices.Equal(got, c.want) {
			t.Errorf("DifferenceClass(%v, %d, %d) = %v, %v, want %v", c.g, c.v, c.w, got, ok, c.want)
		}
	}
}

// TestDifferencesAreExact compares DifferenceClass with its definition for all pairs of vertices.
func TestDifferencesAreExact(t *testing.T) {
	for _, g := range append(groupGraphs(), sparseGraphs(5)...) {
		check := classChecker(t, g)
		for v := range g.N {
			for w := range g.N {
				got, ok := impl.DifferenceClass(g, v, w)
				want := minus(scriptOf(g.N, []int{v}), scriptOf(g.N, []int{w}))
				check(fmt.Sprintf("DifferenceClass of %d and %d", v, w), got, ok, want)
			}
		}
	}
}

// multipliers returns some of the numbers from -1000 to 1000.
func multipliers() []int {
	all := []int{0, 1, -1, 2, -2, 3, -3, 6, 7, 8, -64, 511, 512, -513, 767, 998, -998, 999, -999, 1000, -1000}
	return append(all, listsOf(1, 5, 1000)[0]...)
}

// plus returns the sums of the elements.
func plus(d []int, e []int) []int {
	return minus(d, times(e, -1))
}

// TestSumsAreExact compares sums, inverses and multiples with their definitions, where classes are known without firing.
func TestSumsAreExact(t *testing.T) {
	for i, g := range append(groupGraphs(), sparseGraphs(10)...) {
		check, all := classChecker(t, g), levelDivisors(g.N)
		for k, d := range all {
			if i >= len(groupGraphs()) && k%20 != i%20 {
				continue
			}
			for _, n := range multipliers() {
				got, ok := impl.TimesClass(g, d, n)
				check(fmt.Sprintf("%d times %v", n, d), got, ok, times(d, n))
			}
			inverse, ok := impl.InverseClass(g, d)
			check(fmt.Sprintf("the inverse of %v", d), inverse, ok, times(d, -1))
			for _, e := range [][]int{d, inverse, times(d, -1), make([]int, g.N), all[(7*k+3)%len(all)], all[len(all)-1-k]} {
				got, ok := impl.SumOfClasses(g, d, e)
				check(fmt.Sprintf("%v plus %v", d, e), got, ok, plus(d, e))
			}
		}
	}
}

// TestOrdersAreExact compares orders with their definition.
func TestOrdersAreExact(t *testing.T) {
	most := 0
	for _, g := range append(groupGraphs(), sparseGraphs(10)...) {
		class := classesOf(g)
		for _, d := range levelDivisors(g.N) {
			want := orderSlowly(class, d)
			if got := impl.OrderOf(g, d); got != want || impl.GroupOrder(g)%want != 0 {
				t.Fatalf("OrderOf(%v, %v) = %d, want %d", g, d, got, want)
			}
			most = max(most, want)
		}
	}
	if most < 100 {
		t.Errorf("the greatest order is %d", most)
	}
}

// TestMultiplesAdd checks for all numbers from -1000 to 1000 that each multiple is the one before it plus the class itself, and that the order of the class is the period.
func TestMultiplesAdd(t *testing.T) {
	for _, c := range []struct {
		g impl.Graph
		d []int
	}{{fatTriangle(), []int{1, 0, -1}}, {parallel(12), []int{-59, 59}}, {completeGraph(4), []int{-1, 1, 0, 0}}, {octahedron(), []int{-1, 1, 0, 0, 0, 0}}, {pendant(), []int{60, -40, -20}}} {
		order := impl.OrderOf(c.g, c.d)
		before, ok := impl.TimesClass(c.g, c.d, -1000)
		for n := -999; ok && n <= 1000; n++ {
			want, _ := impl.SumOfClasses(c.g, before, c.d)
			var got []int
			got, ok = impl.TimesClass(c.g, c.d, n)
			if !slices.Equal(got, want) || impl.SameDivisor(got, make([]int, c.g.N)) != (n%order == 0) {
				t.Fatalf("TimesClass(%v, %v, %d) = %v, %v, want %v; the order is %d", c.g, c.d, n, got, ok, want, order)
			}
			before = got
		}
		if !ok {
			t.Errorf("TimesClass(%v, %v, n) fails", c.g, c.d)
		}
	}
}

// TestGroupLaws checks that the representatives form a group: sums are in the list of all classes, do not depend on the order of the terms or on brackets, 0 changes nothing, and each class has an inverse.
func TestGroupLaws(t *testing.T) {
	add := func(g impl.Graph, a []int, b []int) []int {
		sum, ok := impl.SumOfClasses(g, a, b)
		if !ok {
			t.Fatalf("SumOfClasses(%v, %v, %v) fails", g, a, b)
		}
		return sum
	}
	for _, g := range groupGraphs() {
		classes, _ := impl.ClassesOf(g)
		step := 1 + len(classes)/20
		for i, a := range classes {
			inverse, _ := impl.InverseClass(g, a)
			if !slices.Equal(add(g, a, make([]int, g.N)), a) || impl.DegreeOf(a) != 0 || !impl.IsPrincipal(g, add(g, a, inverse)) {
				t.Fatalf("the class %v on %v plus 0 or its inverse %v", a, g, inverse)
			}
			for j := i % step; j < len(classes); j += step {
				b, c := classes[j], classes[(3*i+5*j)%len(classes)]
				sum := add(g, a, b)
				_, found := slices.BinarySearchFunc(classes, sum, slices.Compare[[]int])
				if !found || !slices.Equal(sum, add(g, b, a)) || !slices.Equal(add(g, sum, c), add(g, a, add(g, b, c))) {
					t.Fatalf("the sum of %v, %v and %v on %v", a, b, c, g)
				}
			}
		}
	}
}

// TestSumsAreOfClasses checks that sums do not change if another divisor of the class is taken.
func TestSumsAreOfClasses(t *testing.T) {
	count := 0
	for _, g := range groupGraphs() {
		for k, d := range levelDivisors(g.N) {
			after := fireSlowly(g, d, listsOf(k+1, g.N, 2)[k])
			if !within(after) {
				continue
			}
			count++
			e := levelDivisors(g.N)[k/2]
			one, ok := impl.SumOfClasses(g, d, e)
			other, fine := impl.SumOfClasses(g, after, e)
			if !ok || !fine || !slices.Equal(one, other) || impl.OrderOf(g, d) != impl.OrderOf(g, after) {
				t.Fatalf("%v and %v on %v have the sums %v and %v with %v", d, after, g, one, other, e)
			}
		}
	}
	if count < 300 {
		t.Errorf("only %d scripts lead to valid divisors", count)
	}
}

// checkNoClass checks that all functions fail for d.
func checkNoClass(t *testing.T, name string, g impl.Graph, d []int) {
	t.Helper()
	fails := func(function string, got []int, ok bool) {
		t.Helper()
		if ok || len(got) != 0 {
			t.Fatalf("%s: %s of %v on %v = %v, %v", name, function, d, g, got, ok)
		}
	}
	for _, e := range [][]int{d, times(d, -1), make([]int, len(d)), make([]int, min(max(g.N, 0), 7)), nil} {
		sum, ok := impl.SumOfClasses(g, d, e)
		fails("SumOfClasses", sum, ok)
		sum, ok = impl.SumOfClasses(g, e, d)
		fails("SumOfClasses", sum, ok)
	}
	inverse, ok := impl.InverseClass(g, d)
	fails("InverseClass", inverse, ok)
	for _, n := range []int{0, 1, -1, 2, 1000, -1000, 1001, math.MinInt} {
		multiple, ok := impl.TimesClass(g, d, n)
		fails("TimesClass", multiple, ok)
	}
	if got := impl.OrderOf(g, d); got != 0 {
		t.Fatalf("%s: OrderOf(%v, %v) = %d", name, g, d, got)
	}
}

// levelBeyond returns lists of n ints whose wrapped sum is 0, with an element beyond 60 or -60.
func levelBeyond(n int) [][]int {
	var all [][]int
	for v := range n {
		for _, x := range append(beyond(60), 1<<62, 1<<63-1, 120) {
			d := make([]int, n)
			d[v] = x
			d[(v+1)%n] -= x
			all = append(all, d)
			if n > 2 {
				e := slices.Clone(d)
				e[(v+1)%n] += 7
				e[(v+2)%n] -= 7
				all = append(all, e)
			}
		}
	}
	// The sums of these are 0 only because they wrap around.
	for parts := 2; parts <= n && parts <= 4; parts *= 2 {
		d := make([]int, n)
		for v := range parts {
			d[v] = math.MinInt / parts * 2
		}
		all = append(all, d, times(d, -1))
	}
	return slices.DeleteFunc(all, within)
}

func TestSumsReject(t *testing.T) {
	eachBadDivisor(func(name string, g impl.Graph, d []int) { checkNoClass(t, name, g, d) })
	for name, g := range badGraphs() {
		for _, n := range lengthsFor(g) {
			checkNoClass(t, name, g, make([]int, n))
		}
	}
	for _, g := range someGraphs() {
		for _, d := range levelBeyond(g.N) {
			checkNoClass(t, "beyond the limit", g, d)
		}
		for _, d := range append(divisorsOf(g.N), poorDivisors(g.N)...) {
			if impl.DegreeOf(d) != 0 {
				checkNoClass(t, "not of degree 0", g, d)
			}
		}
		for v := range g.N {
			for _, x := range []int{1, -1, 2, 60, -60} {
				d := times(scriptOf(g.N, []int{v}), x)
				checkNoClass(t, "not of degree 0", g, d)
				if _, ok := impl.SumOfClasses(g, d, times(scriptOf(g.N, []int{0}), -x)); ok {
					t.Errorf("SumOfClasses accepts %v on %v, because the degrees add up to 0", d, g)
				}
			}
		}
	}
}

// TestTimesLimit checks the numbers at the limit and beyond it.
func TestTimesLimit(t *testing.T) {
	for _, g := range someGraphs() {
		for _, d := range levelDivisors(g.N) {
			for _, n := range []int{1000, -1000, 999, -999} {
				if got, ok := impl.TimesClass(g, d, n); !ok || len(got) != g.N {
					t.Fatalf("TimesClass(%v, %v, %d) = %v, %v", g, d, n, got, ok)
				}
			}
			for _, n := range append(beyond(1000), 2000, 1<<32+5, -1<<32-5, 1<<62, -1<<62) {
				if got, ok := impl.TimesClass(g, d, n); ok || len(got) != 0 {
					t.Fatalf("TimesClass(%v, %v, %d) = %v, %v", g, d, n, got, ok)
				}
			}
		}
	}
}

func TestDifferenceRejects(t *testing.T) {
	check := func(name string, g impl.Graph, v int, w int) {
		t.Helper()
		if got, ok := impl.DifferenceClass(g, v, w); ok || len(got) != 0 {
			t.Errorf("%s: DifferenceClass(%v, %d, %d) = %v, %v", name, g, v, w, got, ok)
		}
	}
	for _, g := range someGraphs() {
		for _, v := range append(oddInts(), g.N, g.N+1, 64, 1<<32, -1<<32) {
			for w := range g.N {
				check("no such vertex", g, v, w)
				check("no such vertex", g, w, v)
			}
			check("twice no such vertex", g, v, v)
		}
	}
	for name, g := range badGraphs() {
		for _, v := range append(oddInts(), 0, 1, 2, 5) {
			for _, w := range append(oddInts(), 0, 1, 2, 5) {
				check(name, g, v, w)
			}
		}
	}
}

// groupAnswers returns the answers of all functions of the chapter, as text.
func groupAnswers(g impl.Graph, a []int, b []int) string {
	classes, classesOk := impl.ClassesOf(g)
	sum, sumOk := impl.SumOfClasses(g, a, b)
	inverse, inverseOk := impl.InverseClass(g, a)
	text := fmt.Sprint(classes, classesOk, sum, sumOk, inverse, inverseOk, impl.OrderOf(g, a), impl.GroupOrder(g), impl.GroupFactors(g), impl.IsCyclic(g))
	for _, n := range []int{0, 1, -1, 6, -1000, 1001} {
		multiple, ok := impl.TimesClass(g, b, n)
		difference, fine := impl.DifferenceClass(g, n, 0)
		text += fmt.Sprintln(multiple, ok, difference, fine)
	}
	return text
}

// TestGroupArgumentsAreKept checks that no function changes its arguments or the memory behind them, and that a second call answers the same.
func TestGroupArgumentsAreKept(t *testing.T) {
	for _, g := range groupGraphs() {
		all := levelDivisors(g.N)
		for k, d := range all {
			if k%5 == 0 {
				checkKept(t, g, d, all[len(all)-1-k], groupAnswers)
			}
			if k%25 == 0 {
				checkKept(t, g, d, d, groupAnswers)
				checkKept(t, g, d, slices.Repeat([]int{1}, g.N), groupAnswers)
			}
		}
	}
	for _, g := range badGraphs() {
		for _, n := range lengthsFor(g) {
			checkKept(t, g, make([]int, n), make([]int, n), groupAnswers)
		}
	}
	checkOddKept(t, groupAnswers)
}

// TestGroupResultsAreNew checks that results share no memory with arguments or with each other.
func TestGroupResultsAreNew(t *testing.T) {
	for _, g := range groupGraphs() {
		checkListIsNew(t, func() []int { return impl.GroupFactors(g) })
		checkMatrixIsNew(t, func() [][]int {
			classes, _ := impl.ClassesOf(g)
			return classes
		})
		for v := range g.N {
			checkListIsNew(t, func() []int {
				d, _ := impl.DifferenceClass(g, v, 0)
				return d
			})
		}
		// A representative is its own sum with 0, and so are its multiples by 0 and 1.
		classes, _ := impl.ClassesOf(g)
		none := make([]int, g.N)
		for _, d := range append(levelDivisors(g.N)[:4], classes[0]) {
			for _, e := range [][]int{none, d} {
				checkCombination(t, d, e, func(a []int, b []int) ([]int, bool) { return impl.SumOfClasses(g, a, b) })
				checkCombination(t, e, d, func(a []int, b []int) ([]int, bool) { return impl.SumOfClasses(g, a, b) })
			}
			checkCombination(t, d, nil, func(a []int, b []int) ([]int, bool) { return impl.InverseClass(g, a) })
			for _, n := range []int{0, 1, -1, 2, 1000} {
				checkCombination(t, d, nil, func(a []int, b []int) ([]int, bool) { return impl.TimesClass(g, a, n) })
			}
		}
	}
}

func TestGroupCallsAtOnce(t *testing.T) {
	for _, g := range []impl.Graph{graphOf(1), parallel(12), fatTriangle(), octahedron()} {
		d := levelDivisors(g.N)[2]
		checkAtOnce(t, g, d, d, groupAnswers)
	}
}
