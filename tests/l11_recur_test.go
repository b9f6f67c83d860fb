package tests

import (
	"fmt"
	"slices"
	"testing"

	"loop.example/g00841/impl"
)

// onceBeside returns the list of n elements with 0 at q and 1 elsewhere.
func onceBeside(n int, q int) []int {
	return withoutSink(slices.Repeat([]int{1}, n), q)
}

// balanced returns a configuration with minus the sum of its chips at the sink.
func balanced(p []int, q int) []int {
	l := slices.Clone(p)
	l[q] = -impl.DegreeOf(p)
	return l
}

// comesBackSlowly is IsRecurrent of a configuration by its definition.
func comesBackSlowly(g impl.Graph, p []int, q int) bool {
	if len(unstableSlowly(g, p, q)) > 0 {
		return false
	}
	fired := withoutSink(fireSlowly(g, p, scriptOf(g.N, []int{q})), q)
	after, many, _ := settleSlowly(g, fired, q, slices.Max[[]int])
	return slices.Equal(after, p) && slices.Equal(many, onceBeside(g.N, q))
}

// recurrentSlowly returns all recurrent configurations in lexicographic order.
func recurrentSlowly(g impl.Graph, q int) [][]int {
	return slices.DeleteFunc(stablePilesSlowly(g, q), func(p []int) bool { return !comesBackSlowly(g, p, q) })
}

// doubledPath is the path of three vertices with each edge twice. Its identity is neither full nor empty.
func doubledPath() impl.Graph {
	return graphOf(3, 0, 1, 0, 1, 1, 2, 1, 2)
}

// recurGraphs returns a few graphs of every size, on which all sinks and all recurrent configurations are tried.
func recurGraphs() []impl.Graph {
	return append(groupGraphs(), append(sparseGraphs(60), doubledPath(), graphOf(6, 0, 1, 0, 1, 0, 1, 0, 2, 1, 2, 2, 3, 3, 4, 3, 4, 4, 5, 4, 5))...)
}

// pileChecker returns a function that checks that a list is the recurrent configuration in the class of a divisor with any number of chips at q, by the definitions and without firing.
func pileChecker(t *testing.T, g impl.Graph, q int) func(name string, got []int, ok bool, want []int) {
	class := classesOf(g)
	known := map[string]bool{}
	return func(name string, got []int, ok bool, want []int) {
		t.Helper()
		if !ok || len(got) != g.N || got[q] != 0 || slices.Min(got) < 0 {
			t.Fatalf("%s on %v with the sink %d = %v, %v", name, g, q, got, ok)
		}
		if class(balanced(got, q)) != class(balanced(withoutSink(want, q), q)) {
			t.Fatalf("%s on %v with the sink %d = %v, which is in another class than %v", name, g, q, got, want)
		}
		// Most of the lists come often, and the definition takes long.
		if text := fmt.Sprint(got); !known[text] {
			known[text] = comesBackSlowly(g, got, q)
			if !known[text] {
				t.Fatalf("%s on %v with the sink %d = %v, which is not recurrent", name, g, q, got)
			}
		}
	}
}

func TestIsRecurrent(t *testing.T) {
	fat, path, full := fatTriangle(), graphOf(3, 0, 1, 1, 2), completeGraph(4)
	for _, c := range []struct {
		g    impl.Graph
		p    []int
		q    int
		want bool
	}{
		{fat, []int{0, 2, 1}, 0, true}, {fat, []int{0, 0, 1}, 0, true}, {fat, []int{0, 0, 0}, 0, false}, {fat, []int{0, 1, 0}, 0, true}, {fat, []int{0, 1, 1}, 0, true}, {fat, []int{0, 2, 0}, 0, true},
		{fat, []int{0, 3, 0}, 0, false}, {fat, []int{0, 3, 1}, 0, false}, {fat, []int{0, 2, 2}, 0, false}, {fat, []int{0, 60, 60}, 0, false},
		{fat, []int{2, 0, 0}, 2, true}, {fat, []int{1, 2, 0}, 2, true}, {fat, []int{1, 1, 0}, 2, false}, {fat, []int{0, 0, 1}, 1, true}, {fat, []int{0, 0, 0}, 1, false},
		{fat, []int{1, 2, 1}, 0, false}, {fat, []int{-1, 2, 1}, 0, false}, {fat, []int{0, 2, -1}, 0, false}, {fat, []int{0, -1, 1}, 0, false}, {fat, []int{0, 2, 1}, 3, false}, {fat, []int{0, 2, 1}, -1, false}, {fat, []int{0, 2}, 0, false}, {fat, nil, 0, false},
		{graphOf(1), []int{0}, 0, true}, {graphOf(1), []int{1}, 0, false}, {graphOf(1), []int{0}, 1, false}, {graphOf(1), nil, 0, false},
		{parallel(1), []int{0, 0}, 0, true}, {parallel(12), []int{0, 0}, 0, true}, {parallel(12), []int{0, 11}, 0, true}, {parallel(12), []int{0, 12}, 0, false}, {parallel(12), []int{5, 0}, 1, true},
		{path, []int{0, 1, 0}, 0, true}, {path, []int{0, 0, 0}, 0, false}, {path, []int{0, 0, 0}, 1, true}, {path, []int{0, 1, 0}, 2, true},
		{full, []int{0, 2, 1, 0}, 0, true}, {full, []int{0, 1, 0, 2}, 0, true}, {full, []int{0, 1, 1, 1}, 0, false}, {full, []int{0, 0, 0, 2}, 0, false}, {full, []int{0, 2, 2, 0}, 0, true}, {full, []int{2, 0, 0, 0}, 3, false},
		{graphOf(0), nil, 0, false}, {graphOf(3, 0, 1), []int{0, 0, 0}, 0, false}, {impl.Graph{N: 3, Edges: []impl.Edge{{A: 1, B: 2}, {A: 0, B: 1}}}, []int{0, 1, 0}, 0, false},
	} {
		if got := impl.IsRecurrent(c.g, c.p, c.q); got != c.want {
			t.Errorf("IsRecurrent(%v, %v, %d) = %v", c.g, c.p, c.q, got)
		}
	}
}

// TestIsRecurrentIsExact compares IsRecurrent with its definition on many graphs.
func TestIsRecurrentIsExact(t *testing.T) {
	answers := map[bool]int{}
	check := func(g impl.Graph, p []int, q int) {
		want := comesBackSlowly(g, p, q)
		answers[want]++
		if got := impl.IsRecurrent(g, p, q); got != want {
			t.Fatalf("IsRecurrent(%v, %v, %d) = %v", g, p, q, got)
		}
	}
	eachPile(check)
	for _, g := range recurGraphs() {
		for q := range g.N {
			for k, p := range stablePilesSlowly(g, q) {
				if g.N < 5 || k%3 == q%3 {
					check(g, p, q)
				}
			}
		}
	}
	if answers[true] < 1000 || answers[false] < 1000 {
		t.Errorf("the answers are %v", answers)
	}
}

// reachedSlowly returns all stable configurations, as text, that are reached from a stable one by adding chips, one at a time, and stabilizing.
func reachedSlowly(g impl.Graph, p []int, q int) map[string]bool {
	reached, open := map[string]bool{fmt.Sprint(p): true}, [][]int{p}
	for len(open) > 0 {
		p, open = open[0], open[1:]
		for v := range g.N {
			if v == q {
				continue
			}
			next, _, _ := settleSlowly(g, plus(p, scriptOf(g.N, []int{v})), q, slices.Min[[]int])
			if text := fmt.Sprint(next); !reached[text] {
				reached[text] = true
				open = append(open, next)
			}
		}
	}
	return reached
}

// TestRecurrentIsReachedFromAll compares IsRecurrent with the first sentence of the chapter: recurrent is what is reached from every configuration. It is enough to start at stable ones, because it makes no difference whether one stabilizes before chips are added.
func TestRecurrentIsReachedFromAll(t *testing.T) {
	count := 0
	for _, g := range append(sparseGraphs(25), recurGraphs()...) {
		for q := range g.N {
			all := stablePilesSlowly(g, q)
			if len(all) > 40 {
				continue
			}
			times := map[string]int{}
			for _, p := range all {
				for text := range reachedSlowly(g, p, q) {
					times[text]++
				}
			}
			for _, p := range all {
				count++
				if want := times[fmt.Sprint(p)] == len(all); impl.IsRecurrent(g, p, q) != want {
					t.Fatalf("IsRecurrent(%v, %v, %d) = %v", g, p, q, !want)
				}
			}
		}
	}
	if count < 1000 {
		t.Errorf("only %d configurations are tried", count)
	}
}

func TestRecurrentOf(t *testing.T) {
	fat, path, star := fatTriangle(), graphOf(3, 0, 1, 1, 2), graphOf(5, 0, 4, 1, 4, 2, 4, 3, 4)
	for _, c := range []struct {
		g    impl.Graph
		p    []int
		q    int
		want []int
	}{
		{fat, []int{0, 0, 0}, 0, []int{0, 2, 1}}, {fat, []int{0, 2, 1}, 0, []int{0, 2, 1}}, {fat, []int{0, 0, 1}, 0, []int{0, 0, 1}}, {fat, []int{0, 3, 0}, 0, []int{0, 0, 1}}, {fat, []int{0, 60, 60}, 0, []int{0, 2, 1}},
		{fat, []int{0, 60, 59}, 0, []int{0, 2, 0}}, {fat, []int{60, 60, 0}, 2, []int{2, 2, 0}}, {fat, []int{1, 1, 0}, 2, []int{2, 2, 0}}, {fat, []int{1, 0, 0}, 2, []int{2, 1, 0}},
		{graphOf(1), []int{0}, 0, []int{0}}, {parallel(1), []int{60, 0}, 1, []int{0, 0}}, {parallel(12), []int{0, 59}, 0, []int{0, 11}}, {parallel(12), []int{0, 60}, 0, []int{0, 0}}, {parallel(12), []int{0, 7}, 0, []int{0, 7}},
		{path, []int{0, 0, 0}, 0, []int{0, 1, 0}}, {path, []int{0, 60, 60}, 0, []int{0, 1, 0}}, {star, []int{60, 60, 60, 60, 0}, 4, []int{0, 0, 0, 0, 0}}, {star, []int{0, 0, 0, 0, 0}, 0, []int{0, 0, 0, 0, 3}},
		{doubledPath(), []int{0, 0, 0}, 0, []int{0, 2, 0}}, {doubledPath(), []int{0, 1, 1}, 0, []int{0, 3, 1}}, {completeGraph(4), []int{0, 1, 1, 1}, 0, []int{0, 2, 2, 2}},
	} {
		if got, ok := impl.RecurrentOf(c.g, c.p, c.q); !ok || !slices.Equal(got, c.want) {
			t.Errorf("RecurrentOf(%v, %v, %d) = %v, %v, want %v", c.g, c.p, c.q, got, ok, c.want)
		}
	}
}

// TestRecurrentOfIsExact compares RecurrentOf with its definition, and checks that a recurrent configuration is its own.
func TestRecurrentOfIsExact(t *testing.T) {
	checkers := map[string]func(string, []int, bool, []int){}
	check := func(g impl.Graph, p []int, q int) {
		text := fmt.Sprint(g, q)
		if checkers[text] == nil {
			checkers[text] = pileChecker(t, g, q)
		}
		got, ok := impl.RecurrentOf(g, p, q)
		checkers[text](fmt.Sprintf("RecurrentOf of %v", p), got, ok, p)
		if impl.IsRecurrent(g, p, q) && !slices.Equal(got, p) {
			t.Fatalf("RecurrentOf(%v, %v, %d) = %v", g, p, q, got)
		}
	}
	eachPile(check)
	for _, g := range recurGraphs() {
		for q := range g.N {
			for _, p := range stablePilesSlowly(g, q) {
				check(g, p, q)
			}
		}
	}
}

func TestSumOfPiles(t *testing.T) {
	fat, path := fatTriangle(), graphOf(3, 0, 1, 1, 2)
	for _, c := range []struct {
		g       impl.Graph
		a, b    []int
		q       int
		want    []int
		comment string
	}{
		{fat, []int{0, 2, 1}, []int{0, 1, 0}, 0, []int{0, 1, 0}, "identity"}, {fat, []int{0, 1, 1}, []int{0, 1, 0}, 0, []int{0, 2, 1}, "inverse"}, {fat, []int{0, 2, 1}, []int{0, 2, 1}, 0, []int{0, 2, 1}, "identity twice"},
		{fat, []int{0, 0, 0}, []int{0, 0, 0}, 0, []int{0, 0, 0}, "not recurrent"}, {fat, []int{0, 1, 0}, []int{0, 1, 1}, 0, []int{0, 2, 1}, "stable"}, {fat, []int{0, 3, 0}, []int{0, 0, 2}, 0, []int{0, 1, 1}, "neither is stable"}, {fat, []int{2, 2, 0}, []int{1, 1, 0}, 2, []int{2, 2, 0}, "sink 2"},
		{fat, []int{0, 30, 60}, []int{0, 30, 0}, 0, []int{0, 2, 1}, "at the limit"}, {fat, []int{0, 31, 60}, []int{0, 30, 0}, 0, nil, "beyond the limit"}, {fat, []int{0, 60, 60}, []int{0, 0, 1}, 0, nil, "beyond the limit"}, {fat, []int{0, 60, 60}, []int{0, 60, 60}, 0, nil, "beyond the limit"},
		{fat, []int{0, 61, 0}, []int{0, -1, 0}, 0, nil, "both invalid"}, {fat, []int{1, 2, 1}, []int{-1, 1, 0}, 0, nil, "both invalid"}, {fat, []int{0, 2, 1}, []int{0, -1, 0}, 0, nil, "a debt"}, {fat, []int{0, -1, 0}, []int{0, 2, 1}, 0, nil, "a debt"}, {fat, []int{1, 2, 1}, []int{0, 1, 0}, 0, nil, "chips at the sink"}, {fat, []int{0, 2, 1}, []int{1, 1, 0}, 0, nil, "chips at the sink"},
		{fat, []int{0, 2, 1}, []int{0, 1}, 0, nil, "length"}, {fat, []int{0, 2}, []int{0, 1, 0}, 0, nil, "length"}, {fat, []int{0, 2}, []int{0, 1}, 0, nil, "length"}, {fat, nil, nil, 0, nil, "length"}, {fat, []int{0, 2, 1}, []int{0, 1, 0}, 3, nil, "sink"}, {fat, []int{0, 0, 0}, []int{0, 0, 0}, -1, nil, "sink"},
		{graphOf(1), []int{0}, []int{0}, 0, []int{0}, "one vertex"}, {graphOf(1), []int{1}, []int{-1}, 0, nil, "one vertex"}, {parallel(1), []int{0, 60}, []int{0, 0}, 0, []int{0, 0}, "at the limit"}, {parallel(12), []int{0, 11}, []int{0, 11}, 0, []int{0, 10}, "parallel"}, {parallel(12), []int{0, 59}, []int{0, 1}, 0, []int{0, 0}, "at the limit"}, {parallel(12), []int{0, 59}, []int{0, 2}, 0, nil, "beyond the limit"},
		{path, []int{0, 1, 0}, []int{0, 1, 0}, 0, []int{0, 1, 0}, "path"}, {graphOf(3, 0, 1), []int{0, 0, 0}, []int{0, 0, 0}, 0, nil, "graph"}, {graphOf(0), nil, nil, 0, nil, "graph"},
	} {
		got, ok := impl.SumOfPiles(c.g, c.a, c.b, c.q)
		if ok != (c.want != nil) || !slices.Equal(got, c.want) {
			t.Errorf("%s: SumOfPiles(%v, %v, %v, %d) = %v, %v, want %v", c.comment, c.g, c.a, c.b, c.q, got, ok, c.want)
		}
	}
}

// TestSumOfPilesIsExact compares SumOfPiles with its definition, also where the sum has too many chips.
func TestSumOfPilesIsExact(t *testing.T) {
	answers, choices := map[bool]int{}, choicesOf()
	for _, g := range recurGraphs() {
		for q := range g.N {
			all := append(pilesOf(g.N, q), impl.FullPile(g, q), make([]int, g.N))
			for k, a := range all {
				for _, b := range [][]int{a, all[(5*k+2)%len(all)], all[len(all)-1], all[len(all)-2]} {
					var want []int
					if within(plus(a, b)) {
						want, _, _ = settleSlowly(g, plus(a, b), q, choices[k%len(choices)])
					}
					answers[want != nil]++
					got, ok := impl.SumOfPiles(g, a, b, q)
					if ok != (want != nil) || !slices.Equal(got, want) {
						t.Fatalf("SumOfPiles(%v, %v, %v, %d) = %v, %v, want %v", g, a, b, q, got, ok, want)
					}
				}
			}
		}
	}
	if answers[true] < 1000 || answers[false] < 1000 {
		t.Errorf("the answers are %v", answers)
	}
}

// TestSumOfPilesLimit checks the sums with the greatest number of chips at a vertex and with one more.
func TestSumOfPilesLimit(t *testing.T) {
	for _, g := range someGraphs() {
		for q := range g.N {
			for v := range g.N {
				if v == q {
					continue
				}
				for _, x := range []int{0, 1, 29, 30, 59, 60} {
					one := scriptOf(g.N, []int{v})
					a, b := plus(impl.FullPile(g, q), times(one, x-impl.FullPile(g, q)[v])), times(one, 60-x)
					want, _, _ := settleSlowly(g, plus(a, b), q, slices.Min[[]int])
					if got, ok := impl.SumOfPiles(g, a, b, q); !ok || !slices.Equal(got, want) {
						t.Fatalf("SumOfPiles(%v, %v, %v, %d) = %v, %v, want %v", g, a, b, q, got, ok, want)
					}
					if got, ok := impl.SumOfPiles(g, plus(a, one), b, q); ok || len(got) != 0 {
						t.Fatalf("SumOfPiles(%v, %v, %v, %d) = %v, %v", g, plus(a, one), b, q, got, ok)
					}
					if got, ok := impl.SumOfPiles(g, a, plus(b, one), q); ok || len(got) != 0 {
						t.Fatalf("SumOfPiles(%v, %v, %v, %d) = %v, %v", g, a, plus(b, one), q, got, ok)
					}
				}
			}
		}
	}
}

func TestIdentityPile(t *testing.T) {
	fat, star := fatTriangle(), graphOf(5, 0, 4, 1, 4, 2, 4, 3, 4)
	for _, c := range []struct {
		g    impl.Graph
		q    int
		want []int
	}{
		{fat, 0, []int{0, 2, 1}}, {fat, 1, []int{2, 0, 1}}, {fat, 2, []int{2, 2, 0}}, {fat, 3, nil}, {fat, -1, nil},
		{graphOf(1), 0, []int{0}}, {graphOf(1), 1, nil}, {parallel(1), 0, []int{0, 0}}, {parallel(12), 0, []int{0, 0}}, {parallel(12), 1, []int{0, 0}},
		{doubledPath(), 0, []int{0, 2, 0}}, {doubledPath(), 1, []int{0, 0, 0}}, {doubledPath(), 2, []int{0, 2, 0}}, {completeGraph(3), 0, []int{0, 1, 1}}, {completeGraph(4), 2, []int{2, 2, 0, 2}},
		{star, 4, []int{0, 0, 0, 0, 0}}, {star, 0, []int{0, 0, 0, 0, 3}}, {graphOf(3, 0, 1), 0, nil}, {graphOf(0), 0, nil},
	} {
		got, ok := impl.IdentityPile(c.g, c.q)
		if ok != (c.want != nil) || !slices.Equal(got, c.want) {
			t.Errorf("IdentityPile(%v, %d) = %v, %v, want %v", c.g, c.q, got, ok, c.want)
		}
	}
}

// TestIdentityIsExact checks on many graphs that IdentityPile is recurrent and in the class of 0.
func TestIdentityIsExact(t *testing.T) {
	for _, g := range append(goodGraphs(), recurGraphs()...) {
		class := classesOf(g)
		for q := range g.N {
			got, ok := impl.IdentityPile(g, q)
			if !ok || len(got) != g.N || !comesBackSlowly(g, got, q) || class(balanced(got, q)) != (classKey{}) {
				t.Fatalf("IdentityPile(%v, %d) = %v, %v", g, q, got, ok)
			}
		}
	}
}

// TestIdentityChangesNothing checks that IdentityPile, and no other recurrent configuration, changes none of them when it is added.
func TestIdentityChangesNothing(t *testing.T) {
	for _, g := range recurGraphs() {
		for q := range g.N {
			e, _ := impl.IdentityPile(g, q)
			for k, p := range recurrentSlowly(g, q) {
				if sum, ok := impl.SumOfPiles(g, e, p, q); !ok || !slices.Equal(sum, p) {
					t.Fatalf("SumOfPiles(%v, %v, %v, %d) = %v, %v", g, e, p, q, sum, ok)
				}
				sum, _, _ := settleSlowly(g, plus(e, p), q, choicesOf()[k%2])
				if !slices.Equal(sum, p) {
					t.Fatalf("%v plus %v on %v with the sink %d is %v", e, p, g, q, sum)
				}
				if twice, _ := impl.SumOfPiles(g, p, p, q); slices.Equal(twice, p) != slices.Equal(p, e) {
					t.Fatalf("%v plus itself is %v on %v with the sink %d, where %v changes nothing", p, twice, g, q, e)
				}
			}
		}
	}
}

func TestInversePile(t *testing.T) {
	fat, path := fatTriangle(), graphOf(3, 0, 1, 1, 2)
	for _, c := range []struct {
		g    impl.Graph
		p    []int
		q    int
		want []int
	}{
		{fat, []int{0, 1, 1}, 0, []int{0, 1, 0}}, {fat, []int{0, 1, 0}, 0, []int{0, 1, 1}}, {fat, []int{0, 2, 1}, 0, []int{0, 2, 1}}, {fat, []int{0, 0, 1}, 0, []int{0, 2, 0}}, {fat, []int{0, 2, 0}, 0, []int{0, 0, 1}},
		{fat, []int{0, 0, 0}, 0, nil}, {fat, []int{0, 3, 0}, 0, nil}, {fat, []int{0, 2, 2}, 0, nil}, {fat, []int{1, 1, 0}, 2, nil}, {fat, []int{2, 1, 0}, 2, []int{1, 2, 0}},
		{fat, []int{1, 1, 1}, 0, nil}, {fat, []int{0, 1, -1}, 0, nil}, {fat, []int{0, 61, 1}, 0, nil}, {fat, []int{0, 1}, 0, nil}, {fat, nil, 0, nil}, {fat, []int{0, 1, 1}, 3, nil}, {fat, []int{0, 1, 1}, -1, nil},
		{graphOf(1), []int{0}, 0, []int{0}}, {graphOf(1), []int{1}, 0, nil}, {parallel(12), []int{0, 5}, 0, []int{0, 7}}, {parallel(12), []int{0, 0}, 0, []int{0, 0}}, {parallel(12), []int{0, 11}, 0, []int{0, 1}}, {parallel(12), []int{0, 12}, 0, nil},
		{path, []int{0, 1, 0}, 0, []int{0, 1, 0}}, {path, []int{0, 0, 0}, 0, nil}, {doubledPath(), []int{0, 3, 1}, 0, []int{0, 3, 1}}, {doubledPath(), []int{0, 2, 1}, 0, []int{0, 2, 1}}, {graphOf(3, 0, 1), []int{0, 0, 0}, 0, nil},
	} {
		got, ok := impl.InversePile(c.g, c.p, c.q)
		if ok != (c.want != nil) || !slices.Equal(got, c.want) {
			t.Errorf("InversePile(%v, %v, %d) = %v, %v, want %v", c.g, c.p, c.q, got, ok, c.want)
		}
	}
}

// TestInversesOfPiles checks for stable configurations that InversePile is recurrent, in the negative class, and adds up to the identity, if they are recurrent, and that InversePile and LevelOf fail if they are not.
func TestInversesOfPiles(t *testing.T) {
	answers := map[bool]int{}
	for _, g := range recurGraphs() {
		for q := range g.N {
			check := pileChecker(t, g, q)
			e, _ := impl.IdentityPile(g, q)
			for k, p := range stablePilesSlowly(g, q) {
				if g.N > 4 && k%3 != q%3 {
					continue
				}
				want := comesBackSlowly(g, p, q)
				answers[want]++
				got, ok := impl.InversePile(g, p, q)
				if !want {
					if level, fine := impl.LevelOf(g, p, q); ok || len(got) != 0 || level != 0 || fine {
						t.Fatalf("InversePile and LevelOf(%v, %v, %d) = %v, %v and %d, %v", g, p, q, got, ok, level, fine)
					}
					continue
				}
				check(fmt.Sprintf("InversePile of %v", p), got, ok, times(p, -1))
				if sum, fine := impl.SumOfPiles(g, p, got, q); !fine || !slices.Equal(sum, e) {
					t.Fatalf("the sum of %v and InversePile %v on %v with the sink %d is %v", p, got, g, q, sum)
				}
				if back, fine := impl.InversePile(g, got, q); !fine || !slices.Equal(back, p) {
					t.Fatalf("InversePile(%v, %v, %d) = %v, %v, want %v", g, got, q, back, fine, p)
				}
			}
		}
	}
	if answers[true] < 1000 || answers[false] < 1000 {
		t.Errorf("the answers are %v", answers)
	}
}

func TestRecurrentPiles(t *testing.T) {
	fat, path := fatTriangle(), graphOf(3, 0, 1, 1, 2)
	for _, c := range []struct {
		g    impl.Graph
		q    int
		want [][]int
	}{
		{fat, 0, [][]int{{0, 0, 1}, {0, 1, 0}, {0, 1, 1}, {0, 2, 0}, {0, 2, 1}}}, {fat, 2, [][]int{{0, 2, 0}, {1, 2, 0}, {2, 0, 0}, {2, 1, 0}, {2, 2, 0}}}, {fat, 1, [][]int{{0, 0, 1}, {1, 0, 0}, {1, 0, 1}, {2, 0, 0}, {2, 0, 1}}},
		{graphOf(1), 0, [][]int{{0}}}, {parallel(1), 1, [][]int{{0, 0}}}, {parallel(3), 0, [][]int{{0, 0}, {0, 1}, {0, 2}}}, {parallel(3), 1, [][]int{{0, 0}, {1, 0}, {2, 0}}},
		{path, 0, [][]int{{0, 1, 0}}}, {path, 1, [][]int{{0, 0, 0}}}, {completeGraph(3), 1, [][]int{{0, 0, 1}, {1, 0, 0}, {1, 0, 1}}}, {doubledPath(), 0, [][]int{{0, 2, 0}, {0, 2, 1}, {0, 3, 0}, {0, 3, 1}}}, {doubledPath(), 1, [][]int{{0, 0, 0}, {0, 0, 1}, {1, 0, 0}, {1, 0, 1}}},
		{completeGraph(4), 3, [][]int{
			{0, 1, 2, 0}, {0, 2, 1, 0}, {0, 2, 2, 0}, {1, 0, 2, 0}, {1, 1, 2, 0}, {1, 2, 0, 0}, {1, 2, 1, 0}, {1, 2, 2, 0},
			{2, 0, 1, 0}, {2, 0, 2, 0}, {2, 1, 0, 0}, {2, 1, 1, 0}, {2, 1, 2, 0}, {2, 2, 0, 0}, {2, 2, 1, 0}, {2, 2, 2, 0},
		}},
	} {
		if got, ok := impl.RecurrentPiles(c.g, c.q); !ok || !sameMatrix(got, c.want) {
			t.Errorf("RecurrentPiles(%v, %d) = %v, %v, want %v", c.g, c.q, got, ok, c.want)
		}
	}
}

// checkOneInEachClass checks that of some configurations, balanced at the sink, exactly one is in each class of degree 0.
func checkOneInEachClass(t *testing.T, g impl.Graph, piles [][]int, q int) {
	t.Helper()
	class, seen := classesOf(g), map[classKey]bool{}
	for _, p := range piles {
		seen[class(balanced(withoutSink(p, q), q))] = true
	}
	if len(piles) != len(seen) || len(seen) != countTreesSlowly(g) {
		t.Fatalf("the %d lists on %v with the sink %d are in %d classes", len(piles), g, q, len(seen))
	}
}

// TestRecurrentPilesAreExact compares the list with all recurrent configurations, and checks that there is exactly one in each class.
func TestRecurrentPilesAreExact(t *testing.T) {
	for _, g := range append(recurGraphs(), sparseGraphs(50)...) {
		for q := range g.N {
			got, ok := impl.RecurrentPiles(g, q)
			if want := recurrentSlowly(g, q); !ok || !sameMatrix(got, want) {
				t.Fatalf("RecurrentPiles(%v, %d) = %v, %v, want %v", g, q, got, ok, want)
			}
			checkOneInEachClass(t, g, got, q)
		}
	}
}

// TestRecurrentPilesMakeAllClasses checks that the classes of the recurrent configurations, balanced at the sink, are those of ClassesOf, and that RecurrentOf leads back from each of them.
func TestRecurrentPilesMakeAllClasses(t *testing.T) {
	for _, g := range recurGraphs() {
		classes, _ := impl.ClassesOf(g)
		for q := range g.N {
			piles, _ := impl.RecurrentPiles(g, q)
			var found [][]int
			for _, p := range piles {
				d, ok := impl.RepresentativeOf(g, balanced(p, q))
				if !ok {
					t.Fatalf("%v on %v cannot be balanced at %d", p, g, q)
				}
				found = append(found, d)
				e, _ := impl.ReducedOf(g, d, q)
				if back, ok := impl.RecurrentOf(g, withoutSink(e, q), q); !ok || !slices.Equal(back, p) {
					t.Fatalf("RecurrentOf(%v, %v, %d) = %v, %v, want %v", g, withoutSink(e, q), q, back, ok, p)
				}
			}
			slices.SortFunc(found, slices.Compare[[]int])
			if !sameMatrix(found, classes) {
				t.Fatalf("the recurrent configurations on %v with the sink %d have the classes %v, want %v", g, q, found, classes)
			}
		}
	}
}

// TestPileLaws checks that the recurrent configurations form the critical group: sums are recurrent, do not depend on the order of the terms or on brackets, and are in the class of the sum.
func TestPileLaws(t *testing.T) {
	add := func(g impl.Graph, a []int, b []int, q int) []int {
		sum, ok := impl.SumOfPiles(g, a, b, q)
		if !ok {
			t.Fatalf("SumOfPiles(%v, %v, %v, %d) fails", g, a, b, q)
		}
		return sum
	}
	for _, g := range groupGraphs() {
		for q := range g.N {
			check := pileChecker(t, g, q)
			piles, _ := impl.RecurrentPiles(g, q)
			step := 1 + len(piles)/12
			for i, a := range piles {
				for j := i % step; j < len(piles); j += step {
					b, c := piles[j], piles[(3*i+5*j)%len(piles)]
					sum := add(g, a, b, q)
					check(fmt.Sprintf("the sum of %v and %v", a, b), sum, true, plus(a, b))
					if !slices.Equal(sum, add(g, b, a, q)) || !slices.Equal(add(g, sum, c, q), add(g, a, add(g, b, c, q), q)) {
						t.Fatalf("the sum of %v, %v and %v on %v with the sink %d", a, b, c, g, q)
					}
				}
			}
		}
	}
}

// TestRecurrentStaysRecurrent checks that any configuration added to a recurrent one leads to a recurrent one, and to the same one as its RecurrentOf does.
func TestRecurrentStaysRecurrent(t *testing.T) {
	count := 0
	for _, g := range recurGraphs() {
		for q := range g.N {
			check := pileChecker(t, g, q)
			piles, _ := impl.RecurrentPiles(g, q)
			for k, p := range pilesOf(g.N, q) {
				r := piles[(k*k+q)%len(piles)]
				if !within(plus(r, p)) {
					continue
				}
				count++
				sum, ok := impl.SumOfPiles(g, r, p, q)
				check(fmt.Sprintf("the sum of %v and %v", r, p), sum, ok, plus(r, p))
				like, _ := impl.RecurrentOf(g, p, q)
				if other, _ := impl.SumOfPiles(g, r, like, q); !slices.Equal(other, sum) {
					t.Fatalf("%v plus %v is %v, but plus %v it is %v on %v with the sink %d", r, p, sum, like, other, g, q)
				}
			}
		}
	}
	if count < 1000 {
		t.Errorf("only %d sums are tried", count)
	}
}

func TestLevelOf(t *testing.T) {
	fat, path := fatTriangle(), graphOf(3, 0, 1, 1, 2)
	for _, c := range []struct {
		g    impl.Graph
		p    []int
		q    int
		want int
		ok   bool
	}{
		{fat, []int{0, 2, 1}, 0, 2, true}, {fat, []int{0, 0, 1}, 0, 0, true}, {fat, []int{0, 1, 0}, 0, 0, true}, {fat, []int{0, 1, 1}, 0, 1, true}, {fat, []int{0, 2, 0}, 0, 1, true}, {fat, []int{2, 2, 0}, 2, 2, true}, {fat, []int{0, 2, 0}, 2, 0, true}, {fat, []int{1, 2, 0}, 2, 1, true},
		{fat, []int{0, 0, 0}, 0, 0, false}, {fat, []int{0, 3, 1}, 0, 0, false}, {fat, []int{0, 2, 2}, 0, 0, false}, {fat, []int{1, 1, 0}, 2, 0, false}, {fat, []int{1, 2, 1}, 0, 0, false}, {fat, []int{0, 2, -1}, 0, 0, false}, {fat, []int{0, 61, 1}, 0, 0, false}, {fat, []int{0, 2}, 0, 0, false}, {fat, []int{0, 2, 1}, 3, 0, false}, {fat, []int{0, 2, 1}, -1, 0, false},
		{graphOf(1), []int{0}, 0, 0, true}, {graphOf(1), []int{1}, 0, 0, false}, {parallel(1), []int{0, 0}, 0, 0, true}, {parallel(12), []int{0, 0}, 0, 0, true}, {parallel(12), []int{0, 7}, 0, 7, true}, {parallel(12), []int{11, 0}, 1, 11, true}, {parallel(12), []int{0, 12}, 0, 0, false},
		{path, []int{0, 1, 0}, 0, 0, true}, {path, []int{0, 0, 0}, 1, 0, true}, {path, []int{0, 0, 0}, 0, 0, false}, {completeGraph(4), []int{0, 2, 2, 2}, 0, 3, true}, {completeGraph(4), []int{0, 0, 2, 1}, 0, 0, true}, {completeGraph(4), []int{0, 1, 1, 1}, 0, 0, false}, {octahedron(), []int{3, 3, 3, 3, 3, 0}, 5, 7, true}, {graphOf(3, 0, 1), []int{0, 0, 0}, 0, 0, false},
	} {
		if got, ok := impl.LevelOf(c.g, c.p, c.q); got != c.want || ok != c.ok {
			t.Errorf("LevelOf(%v, %v, %d) = %d, %v, want %d, %v", c.g, c.p, c.q, got, ok, c.want, c.ok)
		}
	}
}

// TestLevelsAreExact compares LevelOf with its definition for all recurrent configurations, and checks that the levels are from 0 to the genus and that both occur. Only the full configuration has the greatest one.
func TestLevelsAreExact(t *testing.T) {
	for _, g := range append(recurGraphs(), sparseGraphs(25)...) {
		genus := impl.GenusOf(g)
		for q := range g.N {
			piles, _ := impl.RecurrentPiles(g, q)
			counts := make([]int, genus+1)
			for _, p := range piles {
				got, ok := impl.LevelOf(g, p, q)
				if !ok || got != impl.DegreeOf(p)+valenceSlowly(g, q)-len(g.Edges) || got < 0 || got > genus {
					t.Fatalf("LevelOf(%v, %v, %d) = %d, %v", g, p, q, got, ok)
				}
				counts[got]++
			}
			full, ok := impl.LevelOf(g, impl.FullPile(g, q), q)
			if counts[0] == 0 || counts[genus] != 1 || full != genus || !ok {
				t.Fatalf("the levels on %v with the sink %d occur %v times", g, q, counts)
			}
		}
	}
}

// checkNoPile checks that all functions fail for p.
func checkNoPile(t *testing.T, name string, g impl.Graph, p []int, q int) {
	fails := func(function string, got []int, ok bool) {
		if ok || len(got) != 0 {
			t.Fatalf("%s: %s of %v on %v with the sink %d = %v, %v", name, function, p, g, q, got, ok)
		}
	}
	if impl.IsRecurrent(g, p, q) {
		t.Fatalf("%s: IsRecurrent(%v, %v, %d) = true", name, g, p, q)
	}
	if level, ok := impl.LevelOf(g, p, q); ok || level != 0 {
		t.Fatalf("%s: LevelOf(%v, %v, %d) = %d, %v", name, g, p, q, level, ok)
	}
	like, ok := impl.RecurrentOf(g, p, q)
	fails("RecurrentOf", like, ok)
	inverse, ok := impl.InversePile(g, p, q)
	fails("InversePile", inverse, ok)
	// With the third one, there would be no chips, and with the last one, one chip more or less at a vertex.
	for _, other := range [][]int{p, make([]int, len(p)), times(p, -1), make([]int, min(max(g.N, 0), 7)), nil, plus(times(p, -1), slices.Repeat([]int{1}, len(p)))} {
		sum, ok := impl.SumOfPiles(g, p, other, q)
		fails("SumOfPiles", sum, ok)
		sum, ok = impl.SumOfPiles(g, other, p, q)
		fails("SumOfPiles", sum, ok)
	}
}

func TestRecurRejects(t *testing.T) {
	eachBadPile(func(name string, g impl.Graph, p []int, q int) { checkNoPile(t, name, g, p, q) })
	// An unstable configuration is not recurrent, even if it comes back.
	eachPile(func(g impl.Graph, p []int, q int) {
		if len(unstableSlowly(g, p, q)) == 0 {
			return
		}
		inverse, ok := impl.InversePile(g, p, q)
		level, fine := impl.LevelOf(g, p, q)
		if impl.IsRecurrent(g, p, q) || ok || len(inverse) != 0 || fine || level != 0 {
			t.Fatalf("the configuration %v on %v with the sink %d is taken as recurrent: %v, %d", p, g, q, inverse, level)
		}
	})
}

// oddSinks returns ints that are no vertex of a graph.
func oddSinks(g impl.Graph) []int {
	return append(oddInts(), g.N, g.N+1, 64, 256, 1<<32, -1<<32, 1<<32+1)
}

// eachBadSink calls check with graphs that are not valid, and with ints that are no vertex of a valid one.
func eachBadSink(check func(name string, g impl.Graph, q int)) {
	for name, g := range badGraphs() {
		for _, q := range append(oddInts(), 0, 1, 2, 5) {
			check(name, g, q)
		}
	}
	for _, g := range append(someGraphs(), sparseGraphs(50)...) {
		for _, q := range oddSinks(g) {
			check("no such sink", g, q)
		}
	}
}

func TestRecurRejectsSinks(t *testing.T) {
	eachBadSink(func(name string, g impl.Graph, q int) {
		if got, ok := impl.IdentityPile(g, q); ok || len(got) != 0 {
			t.Errorf("%s: IdentityPile(%v, %d) = %v, %v", name, g, q, got, ok)
		}
		if got, ok := impl.RecurrentPiles(g, q); ok || len(got) != 0 {
			t.Errorf("%s: RecurrentPiles(%v, %d) = %v, %v", name, g, q, got, ok)
		}
	})
}

// recurAnswers returns the answers of all functions of the chapter, as text.
func recurAnswers(g impl.Graph, a []int, b []int, q int) string {
	like, likeOk := impl.RecurrentOf(g, a, q)
	sum, sumOk := impl.SumOfPiles(g, a, b, q)
	identity, identityOk := impl.IdentityPile(g, q)
	inverse, inverseOk := impl.InversePile(g, a, q)
	level, levelOk := impl.LevelOf(g, a, q)
	piles, pilesOk := impl.RecurrentPiles(g, q)
	return fmt.Sprint(impl.IsRecurrent(g, a, q), like, likeOk, sum, sumOk, identity, identityOk, inverse, inverseOk, level, levelOk, piles, pilesOk)
}

// TestRecurArgumentsAreKept checks that no function changes its arguments or the memory behind them, and that a second call answers the same.
func TestRecurArgumentsAreKept(t *testing.T) {
	at := func(q int) func(impl.Graph, []int, []int) string {
		return func(g impl.Graph, a []int, b []int) string { return recurAnswers(g, a, b, q) }
	}
	for _, g := range groupGraphs() {
		for q := range g.N {
			piles, _ := impl.RecurrentPiles(g, q)
			all := append(pilesOf(g.N, q), piles[0], piles[len(piles)/2], impl.FullPile(g, q), make([]int, g.N))
			for k, p := range all {
				if g.N < 5 || k%5 == q {
					checkKept(t, g, p, all[len(all)-1-k], at(q))
				}
			}
			checkKept(t, g, piles[0], piles[0], at(q))
		}
	}
	for _, g := range badGraphs() {
		for _, n := range lengthsFor(g) {
			checkKept(t, g, make([]int, n), make([]int, n), at(0))
		}
	}
	checkOddKept(t, at(2))
}

// TestRecurResultsAreNew checks that results share no memory with arguments or with each other.
func TestRecurResultsAreNew(t *testing.T) {
	for _, g := range groupGraphs() {
		none := make([]int, g.N)
		for q := range g.N {
			checkListIsNew(t, func() []int {
				e, _ := impl.IdentityPile(g, q)
				return e
			})
			checkMatrixIsNew(t, func() [][]int {
				piles, _ := impl.RecurrentPiles(g, q)
				return piles
			})
			// A recurrent configuration is its own RecurrentOf and its own sum with 0, and the identity its own inverse.
			piles, _ := impl.RecurrentPiles(g, q)
			e, _ := impl.IdentityPile(g, q)
			for _, p := range append(pilesOf(g.N, q)[:4], none, e, piles[0], piles[len(piles)-1]) {
				checkCombination(t, p, nil, func(p []int, _ []int) ([]int, bool) { return impl.RecurrentOf(g, p, q) })
				for _, other := range [][]int{none, p} {
					checkCombination(t, p, other, func(a []int, b []int) ([]int, bool) { return impl.SumOfPiles(g, a, b, q) })
					checkCombination(t, other, p, func(a []int, b []int) ([]int, bool) { return impl.SumOfPiles(g, a, b, q) })
				}
				if impl.IsRecurrent(g, p, q) {
					checkCombination(t, p, nil, func(p []int, _ []int) ([]int, bool) { return impl.InversePile(g, p, q) })
				}
			}
		}
	}
}

func TestRecurCallsAtOnce(t *testing.T) {
	for _, g := range []impl.Graph{graphOf(1), parallel(12), fatTriangle(), doubledPath(), completeGraph(4), octahedron()} {
		q := g.N - 1
		for _, p := range [][]int{make([]int, g.N), impl.FullPile(g, q)} {
			checkAtOnce(t, g, p, impl.FullPile(g, q), func(g impl.Graph, a []int, b []int) string { return recurAnswers(g, a, b, q) })
		}
	}
}
