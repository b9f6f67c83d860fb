package tests

import (
	"fmt"
	"runtime"
	"slices"
	"testing"
	"time"

	"loop.example/g00841/impl"
)

// withoutSink returns a copy of a list with 0 at the sink, which must be an index.
func withoutSink(p []int, q int) []int {
	l := slices.Clone(p)
	l[q] = 0
	return l
}

// valenceSlowly returns the number of edges at a vertex.
func valenceSlowly(g impl.Graph, v int) int {
	return edgesToSlowly(g, v, orderOf(g.N))
}

// unstableSlowly returns the unstable vertices of a configuration, in ascending order.
func unstableSlowly(g impl.Graph, p []int, q int) []int {
	var all []int
	for v := range g.N {
		if v != q && p[v] >= valenceSlowly(g, v) {
			all = append(all, v)
		}
	}
	return all
}

// toppleSlowly returns the configuration after a vertex has toppled, by its definition.
func toppleSlowly(g impl.Graph, p []int, q int, v int) []int {
	return withoutSink(fireSlowly(g, p, scriptOf(g.N, []int{v})), q)
}

// settleSlowly is Stabilize by its definition, where choose takes the next one of the unstable vertices. It returns the number of all topplings, too. Valences and edges are read off the matrix.
func settleSlowly(g impl.Graph, p []int, q int, choose func(unstable []int) int) ([]int, []int, int) {
	l := impl.LaplacianOf(g)
	pile, many, size := slices.Clone(p), make([]int, g.N), 0
	for {
		var unstable []int
		for v, chips := range pile {
			if v != q && chips >= l[v][v] {
				unstable = append(unstable, v)
			}
		}
		if len(unstable) == 0 {
			return pile, many, size
		}
		v := choose(unstable)
		pile = withoutSink(minus(pile, l[v]), q)
		many[v]++
		size++
	}
}

// choicesOf returns several ways to choose the next one of the unstable vertices: the least, the greatest, the one in the middle, each in turn, and any one.
func choicesOf() []func([]int) int {
	turn, next := 0, numbers(1000)
	return []func([]int) int{
		slices.Min[[]int], slices.Max[[]int],
		func(unstable []int) int { return unstable[len(unstable)/2] },
		func(unstable []int) int {
			turn++
			return unstable[turn%len(unstable)]
		},
		func(unstable []int) int { return unstable[(next()+1000)%len(unstable)] },
	}
}

// pilesOf returns configurations with n vertices and the sink q: small ones, any ones, and some with the greatest number of chips.
func pilesOf(n int, q int) [][]int {
	all := divisorsOf(n)
	for v := range n {
		one := make([]int, n)
		one[v] = 60
		all = append(all, one)
	}
	for _, p := range all {
		for v, chips := range p {
			p[v] = max(chips, -chips)
		}
		p[q] = 0
	}
	return all
}

// eachPile calls check with configurations of every kind: many graphs, each of their vertices as the sink, and many or few chips.
func eachPile(check func(g impl.Graph, p []int, q int)) {
	for _, g := range someGraphs() {
		for q := range g.N {
			for _, p := range pilesOf(g.N, q) {
				check(g, p, q)
			}
		}
	}
	for k, g := range goodGraphs() {
		q := k % g.N
		all := pilesOf(g.N, q)
		check(g, all[k%12], q)
		check(g, all[k%len(all)], q)
	}
	eachSmallPile(check)
}

// eachSmallPile calls check with all configurations with few chips on some small graphs.
func eachSmallPile(check func(g impl.Graph, p []int, q int)) {
	for _, g := range []impl.Graph{graphOf(1), parallel(1), parallel(3), fatTriangle(), graphOf(3, 0, 2, 1, 2), completeGraph(3), graphOf(4, 0, 1, 0, 2, 0, 3, 1, 2)} {
		for q := range g.N {
			for _, p := range boxOf(g.N, 0, 4) {
				if p[q] == 0 {
					check(g, p, q)
				}
			}
		}
	}
}

// eachBadPile calls check with arguments for which PileOk is false, of every kind.
func eachBadPile(check func(name string, g impl.Graph, p []int, q int)) {
	odd := append(oddInts(), 64, 256, 1<<32, -1<<32, 1<<32+1)
	for _, g := range someGraphs() {
		for name, p := range badLists(g.N, 60) {
			for q := range g.N {
				check(name, g, p, q)
				// With no chips at the sink, only the list itself is wrong.
				if q < len(p) && (len(p) != g.N || !within(withoutSink(p, q))) {
					check(name, g, withoutSink(p, q), q)
				}
			}
		}
		for _, q := range append(odd, g.N, g.N+1) {
			check("no such sink", g, make([]int, g.N), q)
			check("no such sink", g, scriptOf(g.N, []int{0}), q)
			check("no such sink", g, slices.Repeat([]int{60}, g.N), q)
		}
		for q := range g.N {
			for v := range g.N {
				for _, x := range []int{-1, -2, -60, 1, 2, 60} {
					if v == q || x < 0 {
						p := withoutSink(slices.Repeat([]int{3}, g.N), q)
						p[v] = x
						check("a debt, or chips at the sink", g, p, q)
						check("a debt, or chips at the sink", g, times(scriptOf(g.N, []int{v}), x), q)
					}
				}
			}
		}
	}
	for name, g := range badGraphs() {
		for _, n := range lengthsFor(g) {
			for _, q := range append(odd, 0, 1, 2, 5) {
				check(name, g, make([]int, n), q)
				check(name, g, slices.Repeat([]int{2}, n), q)
				if 0 <= q && q < n {
					check(name, g, withoutSink(slices.Repeat([]int{2}, n), q), q)
				}
			}
		}
	}
}

func TestPileOk(t *testing.T) {
	fat := fatTriangle()
	for _, c := range []struct {
		g    impl.Graph
		p    []int
		q    int
		want bool
	}{
		{fat, []int{0, 5, 1}, 0, true}, {fat, []int{1, 5, 1}, 0, false}, {fat, []int{-1, 5, 1}, 0, false}, {fat, []int{0, -1, 1}, 0, false}, {fat, []int{0, 5, -1}, 0, false},
		{fat, []int{0, 0, 0}, 0, true}, {fat, []int{0, 0, 0}, 2, true}, {fat, []int{0, 0, 0}, 3, false}, {fat, []int{0, 0, 0}, -1, false},
		{fat, []int{0, 60, 60}, 0, true}, {fat, []int{0, 61, 60}, 0, false}, {fat, []int{0, 60, 61}, 0, false}, {fat, []int{60, 60, 0}, 2, true}, {fat, []int{61, 60, 0}, 2, false},
		{fat, []int{5, 0, 1}, 1, true}, {fat, []int{5, 0, 1}, 0, false}, {fat, []int{5, 0, 1}, 2, false},
		{fat, []int{0, 5}, 0, false}, {fat, []int{0, 5, 1, 0}, 0, false}, {fat, nil, 0, false},
		{graphOf(1), []int{0}, 0, true}, {graphOf(1), []int{1}, 0, false}, {graphOf(1), []int{-1}, 0, false}, {graphOf(1), []int{0}, 1, false}, {graphOf(1), nil, 0, false},
		{graphOf(0), nil, 0, false}, {impl.Graph{N: 3, Edges: []impl.Edge{{A: 0, B: 2}, {A: 0, B: 1}}}, []int{0, 0, 0}, 0, false}, {graphOf(3, 0, 1), []int{0, 0, 0}, 0, false},
	} {
		if got := impl.PileOk(c.g, c.p, c.q); got != c.want {
			t.Errorf("PileOk(%v, %v, %d) = %v", c.g, c.p, c.q, got)
		}
	}
}

// TestPileOkIsExact compares PileOk with its definition on all small lists, and at the greatest number of chips.
func TestPileOkIsExact(t *testing.T) {
	for _, g := range []impl.Graph{graphOf(1), parallel(2), fatTriangle(), completeGraph(4)} {
		for _, p := range boxOf(g.N, -1, 2) {
			for q := range g.N {
				if got := impl.PileOk(g, p, q); got != (p[q] == 0 && slices.Min(p) == 0) {
					t.Errorf("PileOk(%v, %v, %d) = %v", g, p, q, got)
				}
			}
		}
	}
	eachPile(func(g impl.Graph, p []int, q int) {
		if !impl.PileOk(g, p, q) {
			t.Errorf("PileOk(%v, %v, %d) = false", g, p, q)
		}
	})
}

func TestIsStable(t *testing.T) {
	fat := fatTriangle()
	for _, c := range []struct {
		g    impl.Graph
		p    []int
		q    int
		want bool
	}{
		{fat, []int{0, 2, 1}, 0, true}, {fat, []int{0, 3, 1}, 0, false}, {fat, []int{0, 2, 2}, 0, false}, {fat, []int{0, 3, 2}, 0, false}, {fat, []int{0, 0, 0}, 0, true}, {fat, []int{0, 60, 60}, 0, false},
		{fat, []int{2, 0, 1}, 1, true}, {fat, []int{3, 0, 1}, 1, false}, {fat, []int{2, 2, 0}, 2, true}, {fat, []int{2, 3, 0}, 2, false},
		{fat, []int{1, 2, 1}, 0, false}, {fat, []int{0, -1, 1}, 0, false}, {fat, []int{0, 2, 1}, 3, false}, {fat, []int{0, 0}, 0, false},
		{graphOf(1), []int{0}, 0, true}, {graphOf(1), []int{1}, 0, false}, {parallel(12), []int{0, 11}, 0, true}, {parallel(12), []int{0, 12}, 0, false}, {parallel(12), []int{11, 0}, 1, true},
		{parallel(1), []int{0, 0}, 0, true}, {parallel(1), []int{0, 1}, 0, false}, {graphOf(3, 0, 1), []int{0, 0, 0}, 0, false},
	} {
		if got := impl.IsStable(c.g, c.p, c.q); got != c.want {
			t.Errorf("IsStable(%v, %v, %d) = %v", c.g, c.p, c.q, got)
		}
	}
}

// TestIsStableIsExact compares IsStable with its definition, also where just one vertex has one chip too many.
func TestIsStableIsExact(t *testing.T) {
	answers := map[bool]int{}
	check := func(g impl.Graph, p []int, q int) {
		want := len(unstableSlowly(g, p, q)) == 0
		answers[want]++
		if got := impl.IsStable(g, p, q); got != want {
			t.Fatalf("IsStable(%v, %v, %d) = %v", g, p, q, got)
		}
	}
	eachPile(check)
	for k, g := range goodGraphs() {
		q := k % g.N
		for v := range g.N {
			for more := range 2 {
				p := make([]int, g.N)
				p[v] = valenceSlowly(g, v) - 1 + more
				check(g, withoutSink(p, q), q)
			}
		}
	}
	if answers[true] < 1000 || answers[false] < 1000 {
		t.Errorf("the answers are %v", answers)
	}
}

func TestTopple(t *testing.T) {
	fat, path := fatTriangle(), graphOf(3, 0, 1, 1, 2)
	for _, c := range []struct {
		g    impl.Graph
		p    []int
		q, v int
		want []int
	}{
		{fat, []int{0, 3, 1}, 0, 1, []int{0, 0, 2}}, {fat, []int{0, 2, 1}, 0, 1, nil}, {fat, []int{0, 4, 1}, 0, 1, []int{0, 1, 2}}, {fat, []int{0, 3, 1}, 0, 2, nil}, {fat, []int{0, 3, 2}, 0, 2, []int{0, 4, 0}},
		{fat, []int{0, 3, 1}, 0, 0, nil}, {fat, []int{0, 60, 60}, 0, 0, nil}, {fat, []int{0, 3, 1}, 0, 3, nil}, {fat, []int{0, 3, 1}, 0, -1, nil},
		{fat, []int{3, 0, 0}, 1, 0, []int{0, 0, 1}}, {fat, []int{3, 3, 0}, 2, 0, []int{0, 5, 0}},
		{fat, []int{1, 3, 1}, 0, 1, nil}, {fat, []int{0, 3, -1}, 0, 1, nil}, {fat, []int{0, 61, 1}, 0, 1, nil}, {fat, []int{0, 3}, 0, 1, nil}, {fat, []int{0, 3, 1}, 3, 1, nil},
		// Beyond the greatest number of chips.
		{fat, []int{0, 60, 60}, 0, 1, []int{0, 57, 61}}, {fat, []int{60, 60, 0}, 2, 1, []int{62, 57, 0}}, {path, []int{0, 60, 60}, 0, 2, []int{0, 61, 59}},
		{path, []int{0, 0, 1}, 0, 2, []int{0, 1, 0}}, {path, []int{0, 1, 1}, 0, 1, nil}, {path, []int{1, 0, 1}, 1, 2, []int{1, 0, 0}},
		{parallel(12), []int{0, 60}, 0, 1, []int{0, 48}}, {parallel(12), []int{0, 11}, 0, 1, nil}, {graphOf(1), []int{0}, 0, 0, nil}, {graphOf(3, 0, 1), []int{0, 1, 0}, 0, 1, nil},
	} {
		got, ok := impl.Topple(c.g, c.p, c.q, c.v)
		if ok != (c.want != nil) || !slices.Equal(got, c.want) {
			t.Errorf("Topple(%v, %v, %d, %d) = %v, %v, want %v", c.g, c.p, c.q, c.v, got, ok, c.want)
		}
	}
}

// TestToppleIsExact compares Topple with its definition for all vertices, and for ints that are none.
func TestToppleIsExact(t *testing.T) {
	answers := map[bool]int{}
	eachPile(func(g impl.Graph, p []int, q int) {
		unstable := unstableSlowly(g, p, q)
		for _, v := range append(oddInts(), orderOf(7)...) {
			got, ok := impl.Topple(g, p, q, v)
			answers[ok]++
			var want []int
			if slices.Contains(unstable, v) {
				want = toppleSlowly(g, p, q, v)
			}
			if ok != (want != nil) || !slices.Equal(got, want) {
				t.Fatalf("Topple(%v, %v, %d, %d) = %v, %v, want %v", g, p, q, v, got, ok, want)
			}
		}
	})
	if answers[true] < 1000 || answers[false] < 1000 {
		t.Errorf("the answers are %v", answers)
	}
}

// pileCase is a configuration with what Stabilize answers.
type pileCase struct {
	g            impl.Graph
	p            []int
	q            int
	stable, many []int
}

func pileCases() []pileCase {
	fat, path, long := fatTriangle(), graphOf(3, 0, 1, 1, 2), graphOf(6, 0, 1, 1, 2, 2, 3, 3, 4, 4, 5)
	return []pileCase{
		{fat, []int{0, 3, 1}, 0, []int{0, 1, 0}, []int{0, 1, 1}}, {fat, []int{0, 2, 1}, 0, []int{0, 2, 1}, []int{0, 0, 0}}, {fat, []int{0, 0, 0}, 0, []int{0, 0, 0}, []int{0, 0, 0}},
		{fat, []int{0, 0, 2}, 0, []int{0, 1, 0}, []int{0, 0, 1}}, {fat, []int{0, 2, 2}, 0, []int{0, 0, 1}, []int{0, 1, 1}}, {fat, []int{3, 3, 0}, 2, []int{2, 2, 0}, []int{1, 1, 0}},
		{fat, []int{0, 60, 60}, 0, []int{0, 2, 1}, []int{0, 35, 47}}, {fat, []int{60, 60, 0}, 2, []int{2, 2, 0}, []int{58, 58, 0}},
		{graphOf(1), []int{0}, 0, []int{0}, []int{0}}, {parallel(1), []int{60, 0}, 1, []int{0, 0}, []int{60, 0}}, {parallel(1), []int{0, 1}, 0, []int{0, 0}, []int{0, 1}},
		{parallel(12), []int{0, 60}, 0, []int{0, 0}, []int{0, 5}}, {parallel(12), []int{0, 59}, 0, []int{0, 11}, []int{0, 4}}, {parallel(12), []int{0, 12}, 0, []int{0, 0}, []int{0, 1}}, {parallel(12), []int{0, 11}, 0, []int{0, 11}, []int{0, 0}},
		{path, []int{0, 0, 1}, 0, []int{0, 1, 0}, []int{0, 0, 1}}, {path, []int{0, 2, 0}, 0, []int{0, 1, 0}, []int{0, 1, 1}}, {path, []int{0, 1, 1}, 0, []int{0, 1, 0}, []int{0, 1, 2}}, {path, []int{60, 0, 60}, 1, []int{0, 0, 0}, []int{60, 0, 60}},
		{completeGraph(4), []int{0, 3, 3, 3}, 0, []int{0, 2, 2, 2}, []int{0, 1, 1, 1}}, {completeGraph(4), []int{0, 3, 2, 2}, 0, []int{0, 2, 1, 1}, []int{0, 1, 1, 1}}, {completeGraph(4), []int{2, 2, 0, 3}, 2, []int{1, 1, 0, 2}, []int{1, 1, 0, 1}},
		{graphOf(5, 0, 4, 1, 4, 2, 4, 3, 4), []int{60, 60, 60, 60, 0}, 4, []int{0, 0, 0, 0, 0}, []int{60, 60, 60, 60, 0}}, {graphOf(5, 0, 4, 1, 4, 2, 4, 3, 4), []int{0, 60, 60, 60, 60}, 0, []int{0, 0, 0, 0, 3}, []int{0, 297, 297, 297, 237}},
		{long, []int{0, 60, 60, 60, 60, 60}, 0, []int{0, 1, 1, 1, 1, 0}, []int{0, 296, 533, 711, 830, 890}}, {long, []int{0, 0, 0, 0, 0, 60}, 0, []int{0, 1, 1, 1, 1, 0}, []int{0, 56, 113, 171, 230, 290}}, {octahedron(), []int{60, 60, 60, 60, 60, 0}, 5, []int{0, 3, 3, 3, 3, 0}, []int{87, 72, 72, 72, 72, 0}},
		{long, []int{0, 0, 0, 0, 0, 1}, 0, []int{0, 0, 0, 0, 1, 0}, []int{0, 0, 0, 0, 0, 1}}, {long, []int{0, 1, 1, 1, 1, 0}, 0, []int{0, 1, 1, 1, 1, 0}, []int{0, 0, 0, 0, 0, 0}},
	}
}

func TestStabilize(t *testing.T) {
	for _, c := range pileCases() {
		stable, many, ok := impl.Stabilize(c.g, c.p, c.q)
		if !ok || !slices.Equal(stable, c.stable) || !slices.Equal(many, c.many) {
			t.Errorf("Stabilize(%v, %v, %d) = %v, %v, %v, want %v, %v", c.g, c.p, c.q, stable, many, ok, c.stable, c.many)
		}
		if got := impl.AvalancheSize(c.g, c.p, c.q); got != impl.DegreeOf(c.many) {
			t.Errorf("AvalancheSize(%v, %v, %d) = %d", c.g, c.p, c.q, got)
		}
	}
}

// TestStabilizeIsExact compares Stabilize and AvalancheSize with the definition, where the vertices topple in several orders.
func TestStabilizeIsExact(t *testing.T) {
	choices, most := choicesOf(), 0
	eachPile(func(g impl.Graph, p []int, q int) {
		stable, many, ok := impl.Stabilize(g, p, q)
		size := impl.AvalancheSize(g, p, q)
		most = max(most, size)
		for k, choose := range choices {
			if size > 200 && k != size%len(choices) {
				continue
			}
			wantStable, wantMany, wantSize := settleSlowly(g, p, q, choose)
			if !ok || !slices.Equal(stable, wantStable) || !slices.Equal(many, wantMany) || size != wantSize {
				t.Fatalf("Stabilize(%v, %v, %d) = %v, %v, %v with %d topplings, want %v, %v", g, p, q, stable, many, ok, size, wantStable, wantMany)
			}
		}
	})
	if most < 2000 {
		t.Errorf("the greatest avalanche has %d topplings", most)
	}
}

// TestOrderOfTopplings checks that all ways to topple unstable vertices one after the other end with what Stabilize answers.
func TestOrderOfTopplings(t *testing.T) {
	branches := 0
	eachSmallPile(func(g impl.Graph, p []int, q int) {
		stable, many, _ := impl.Stabilize(g, p, q)
		known := map[string]bool{}
		var walk func(p []int, done []int)
		walk = func(p []int, done []int) {
			text := fmt.Sprint(p, done)
			if known[text] {
				branches++
				return
			}
			known[text] = true
			stuck := true
			for v := range g.N {
				if next, ok := impl.Topple(g, p, q, v); ok {
					stuck = false
					walk(next, plus(done, scriptOf(g.N, []int{v})))
				}
			}
			if stuck && (!slices.Equal(p, stable) || !slices.Equal(done, many)) {
				t.Fatalf("topplings on %v with the sink %d end at %v after %v, but Stabilize answers %v, %v", g, q, p, done, stable, many)
			}
		}
		walk(p, make([]int, g.N))
	})
	if branches < 1000 {
		t.Errorf("only %d pairs of ways come together", branches)
	}
}

// TestTopplingsAreLeast checks that no script without the sink that leaves all vertices stable has a vertex firing less often than it topples.
func TestTopplingsAreLeast(t *testing.T) {
	eachSmallPile(func(g impl.Graph, p []int, q int) {
		_, many, _ := impl.Stabilize(g, p, q)
		for _, s := range boxOf(g.N, 0, min(slices.Max(many), 6)) {
			if s[q] == 0 && len(unstableSlowly(g, fireSlowly(g, p, s), q)) == 0 && slices.Min(minus(s, many)) < 0 {
				t.Fatalf("Stabilize(%v, %v, %d) topples %v, but %v is enough", g, p, q, many, s)
			}
		}
	})
}

// TestStabilizingKeepsTheClass checks that the topplings are a script that leads to the stable configuration but for the sink, and that both are equivalent with the chips balanced at the sink.
func TestStabilizingKeepsTheClass(t *testing.T) {
	classes := map[string]func([]int) classKey{}
	eachPile(func(g impl.Graph, p []int, q int) {
		stable, many, ok := impl.Stabilize(g, p, q)
		if !ok || many[q] != 0 || slices.Min(many) < 0 || !impl.IsStable(g, stable, q) {
			t.Fatalf("Stabilize(%v, %v, %d) = %v, %v, %v", g, p, q, stable, many, ok)
		}
		if !slices.Equal(withoutSink(fireSlowly(g, p, many), q), stable) {
			t.Fatalf("the script %v does not lead from %v to %v on %v with the sink %d", many, p, stable, g, q)
		}
		text := fmt.Sprint(g)
		if classes[text] == nil {
			classes[text] = classesOf(g)
		}
		before, after := slices.Clone(p), slices.Clone(stable)
		before[q], after[q] = -impl.DegreeOf(p), -impl.DegreeOf(stable)
		if classes[text](before) != classes[text](after) {
			t.Fatalf("Stabilize(%v, %v, %d) = %v, which is in another class", g, p, q, stable)
		}
		if again, none, _ := impl.Stabilize(g, stable, q); !slices.Equal(again, stable) || slices.Max(none) != 0 {
			t.Fatalf("the stable configuration %v on %v topples to %v", stable, g, again)
		}
	})
}

// TestStabilizingInParts checks that a sum of two configurations has the same end whether one of them is stabilized before the other one is added or not.
func TestStabilizingInParts(t *testing.T) {
	count := 0
	for _, g := range someGraphs() {
		for q := range g.N {
			all := pilesOf(g.N, q)
			for k, p := range all {
				other := all[(5*k+2)%len(all)]
				first, early, _ := impl.Stabilize(g, p, q)
				if !within(plus(p, other)) || !within(plus(first, other)) {
					continue
				}
				count++
				whole, many, _ := impl.Stabilize(g, plus(p, other), q)
				second, late, _ := impl.Stabilize(g, plus(first, other), q)
				if !slices.Equal(whole, second) || !slices.Equal(many, plus(early, late)) {
					t.Fatalf("%v plus %v on %v with the sink %d is stabilized to %v by %v, in parts to %v by %v and %v", p, other, g, q, whole, many, second, early, late)
				}
			}
		}
	}
	if count < 500 {
		t.Errorf("only %d sums are tried", count)
	}
}

func TestDropChip(t *testing.T) {
	fat, path := fatTriangle(), graphOf(3, 0, 1, 1, 2)
	for _, c := range []struct {
		g       impl.Graph
		p       []int
		q, v    int
		want    []int
		topples int
	}{
		{fat, []int{0, 2, 1}, 0, 1, []int{0, 1, 0}, 2}, {fat, []int{0, 2, 1}, 0, 2, []int{0, 0, 1}, 2}, {fat, []int{0, 1, 1}, 0, 1, []int{0, 2, 1}, 0}, {fat, []int{0, 0, 0}, 0, 1, []int{0, 1, 0}, 0}, {fat, []int{0, 0, 1}, 0, 2, []int{0, 1, 0}, 1},
		{fat, []int{0, 2, 1}, 0, 0, nil, 0}, {fat, []int{0, 2, 1}, 0, 3, nil, 0}, {fat, []int{0, 2, 1}, 0, -1, nil, 0}, {fat, []int{0, 3, 1}, 0, 1, nil, 0}, {fat, []int{0, 3, 1}, 0, 2, nil, 0}, {fat, []int{0, 2, 2}, 0, 1, nil, 0},
		{fat, []int{1, 2, 1}, 0, 1, nil, 0}, {fat, []int{0, -1, 1}, 0, 1, nil, 0}, {fat, []int{0, 2, 1}, 3, 1, nil, 0}, {fat, []int{0, 60, 60}, 0, 1, nil, 0}, {fat, []int{0, 2}, 0, 1, nil, 0},
		{fat, []int{2, 2, 0}, 2, 0, []int{2, 1, 0}, 2}, {fat, []int{2, 0, 1}, 1, 0, []int{1, 0, 0}, 2},
		{graphOf(1), []int{0}, 0, 0, nil, 0}, {parallel(12), []int{0, 11}, 0, 1, []int{0, 0}, 1}, {parallel(12), []int{10, 0}, 1, 0, []int{11, 0}, 0}, {parallel(1), []int{0, 0}, 0, 1, []int{0, 0}, 1},
		{path, []int{0, 1, 0}, 0, 2, []int{0, 1, 0}, 3}, {path, []int{0, 1, 0}, 0, 1, []int{0, 1, 0}, 2}, {path, []int{0, 0, 0}, 1, 2, []int{0, 0, 0}, 1}, {completeGraph(4), []int{0, 2, 2, 2}, 0, 1, []int{0, 2, 1, 1}, 3},
		{graphOf(6, 0, 1, 1, 2, 2, 3, 3, 4, 4, 5), []int{0, 1, 1, 1, 1, 0}, 0, 5, []int{0, 1, 1, 1, 1, 0}, 15}, {graphOf(3, 0, 1), []int{0, 0, 0}, 0, 1, nil, 0},
	} {
		got, topples, ok := impl.DropChip(c.g, c.p, c.q, c.v)
		if ok != (c.want != nil) || !slices.Equal(got, c.want) || topples != c.topples {
			t.Errorf("DropChip(%v, %v, %d, %d) = %v, %d, %v, want %v, %d", c.g, c.p, c.q, c.v, got, topples, ok, c.want, c.topples)
		}
	}
}

// stablePilesSlowly returns all stable configurations of a graph with the sink q.
func stablePilesSlowly(g impl.Graph, q int) [][]int {
	all := [][]int{nil}
	for v := range g.N {
		most := valenceSlowly(g, v) - 1
		if v == q {
			most = 0
		}
		var next [][]int
		for _, p := range all {
			for chips := range most + 1 {
				next = append(next, append(slices.Clone(p), chips))
			}
		}
		all = next
	}
	return all
}

// TestDropChipIsExact compares DropChip with its definition on all stable configurations, for all vertices and for ints that are none.
func TestDropChipIsExact(t *testing.T) {
	choices, count := choicesOf(), 0
	for _, g := range append(someGraphs(), sparseGraphs(20)...) {
		for q := range g.N {
			for k, p := range stablePilesSlowly(g, q) {
				if g.N > 4 && k%7 != q {
					continue
				}
				for v := range g.N {
					got, topples, ok := impl.DropChip(g, p, q, v)
					var want []int
					size := 0
					if v != q {
						want, _, size = settleSlowly(g, plus(p, scriptOf(g.N, []int{v})), q, choices[k%len(choices)])
						count += min(size, 1)
					}
					if ok != (v != q) || !slices.Equal(got, want) || topples != size {
						t.Fatalf("DropChip(%v, %v, %d, %d) = %v, %d, %v, want %v, %d", g, p, q, v, got, topples, ok, want, size)
					}
				}
				for _, v := range append(oddInts(), g.N) {
					if got, topples, ok := impl.DropChip(g, p, q, v); ok || len(got) != 0 || topples != 0 {
						t.Fatalf("DropChip(%v, %v, %d, %d) = %v, %d, %v", g, p, q, v, got, topples, ok)
					}
				}
			}
		}
	}
	if count < 1000 {
		t.Errorf("only %d chips cause topplings", count)
	}
}

// TestDropRejectsUnstable checks that DropChip fails for all configurations that are not stable.
func TestDropRejectsUnstable(t *testing.T) {
	count := 0
	eachPile(func(g impl.Graph, p []int, q int) {
		if len(unstableSlowly(g, p, q)) == 0 {
			return
		}
		count++
		for v := range g.N {
			if got, topples, ok := impl.DropChip(g, p, q, v); ok || len(got) != 0 || topples != 0 {
				t.Fatalf("DropChip(%v, %v, %d, %d) = %v, %d, %v", g, p, q, v, got, topples, ok)
			}
		}
	})
	if count < 1000 {
		t.Errorf("only %d configurations are not stable", count)
	}
}

// TestChipsOneByOne checks that dropping the chips of a configuration one by one, in several orders, ends with what Stabilize answers, with as many topplings.
func TestChipsOneByOne(t *testing.T) {
	next := numbers(1000)
	for _, g := range someGraphs() {
		for q := range g.N {
			for _, p := range pilesOf(g.N, q)[:12] {
				stable, _, _ := impl.Stabilize(g, p, q)
				for range 3 {
					left, now, size := slices.Clone(p), make([]int, g.N), 0
					for impl.DegreeOf(left) > 0 {
						v := (next() + 1000) % g.N
						if left[v] == 0 {
							continue
						}
						left[v]--
						var topples int
						var ok bool
						now, topples, ok = impl.DropChip(g, now, q, v)
						if !ok {
							t.Fatalf("the chips of %v cannot be dropped on %v with the sink %d", p, g, q)
						}
						size += topples
					}
					if !slices.Equal(now, stable) || size != impl.AvalancheSize(g, p, q) {
						t.Fatalf("the chips of %v on %v with the sink %d, one by one, lead to %v by %d topplings, but Stabilize to %v", p, g, q, now, size, stable)
					}
				}
			}
		}
	}
}

func TestFullPile(t *testing.T) {
	fat, star := fatTriangle(), graphOf(5, 0, 4, 1, 4, 2, 4, 3, 4)
	for _, c := range []struct {
		g    impl.Graph
		q    int
		want []int
	}{
		{fat, 0, []int{0, 2, 1}}, {fat, 1, []int{2, 0, 1}}, {fat, 2, []int{2, 2, 0}}, {fat, 3, nil}, {fat, -1, nil},
		{graphOf(1), 0, []int{0}}, {graphOf(1), 1, nil}, {parallel(1), 0, []int{0, 0}}, {parallel(12), 0, []int{0, 11}}, {parallel(12), 1, []int{11, 0}},
		{star, 4, []int{0, 0, 0, 0, 0}}, {star, 0, []int{0, 0, 0, 0, 3}}, {completeGraph(5), 2, []int{3, 3, 0, 3, 3}}, {octahedron(), 5, []int{3, 3, 3, 3, 3, 0}},
		{graphOf(3, 0, 1), 0, nil}, {graphOf(0), 0, nil},
	} {
		if got := impl.FullPile(c.g, c.q); !slices.Equal(got, c.want) {
			t.Errorf("FullPile(%v, %d) = %v, want %v", c.g, c.q, got, c.want)
		}
	}
}

// TestFullPileIsGreatest checks that FullPile is stable and no longer so with one more chip anywhere.
func TestFullPileIsGreatest(t *testing.T) {
	for _, g := range goodGraphs() {
		for q := range g.N {
			full := impl.FullPile(g, q)
			if len(full) != g.N || full[q] != 0 || !impl.IsStable(g, full, q) {
				t.Fatalf("FullPile(%v, %d) = %v", g, q, full)
			}
			for v := range g.N {
				if v != q && (full[v] != valenceSlowly(g, v)-1 || impl.IsStable(g, plus(full, scriptOf(g.N, []int{v})), q)) {
					t.Fatalf("FullPile(%v, %d) = %v, which has too few chips at %d", g, q, full, v)
				}
			}
		}
	}
}

func TestFullPileRejects(t *testing.T) {
	for name, g := range badGraphs() {
		for _, q := range append(oddInts(), 0, 1, 2, 5) {
			if got := impl.FullPile(g, q); len(got) != 0 {
				t.Errorf("%s: FullPile(%v, %d) = %v", name, g, q, got)
			}
		}
	}
	for _, g := range someGraphs() {
		for _, q := range append(oddInts(), g.N, g.N+1, 64, 1<<32, -1<<32, 1<<32+1) {
			if got := impl.FullPile(g, q); len(got) != 0 {
				t.Errorf("FullPile(%v, %d) = %v", g, q, got)
			}
		}
	}
}

func TestPileRejects(t *testing.T) {
	eachBadPile(func(name string, g impl.Graph, p []int, q int) {
		if impl.PileOk(g, p, q) || impl.IsStable(g, p, q) {
			t.Fatalf("%s: PileOk or IsStable(%v, %v, %d) = true", name, g, p, q)
		}
		if stable, many, ok := impl.Stabilize(g, p, q); ok || len(stable) != 0 || len(many) != 0 {
			t.Fatalf("%s: Stabilize(%v, %v, %d) = %v, %v, %v", name, g, p, q, stable, many, ok)
		}
		if got := impl.AvalancheSize(g, p, q); got != -1 {
			t.Fatalf("%s: AvalancheSize(%v, %v, %d) = %d", name, g, p, q, got)
		}
		for v := -1; v <= 6; v++ {
			if got, ok := impl.Topple(g, p, q, v); ok || len(got) != 0 {
				t.Fatalf("%s: Topple(%v, %v, %d, %d) = %v, %v", name, g, p, q, v, got, ok)
			}
			if got, topples, ok := impl.DropChip(g, p, q, v); ok || len(got) != 0 || topples != 0 {
				t.Fatalf("%s: DropChip(%v, %v, %d, %d) = %v, %d, %v", name, g, p, q, v, got, topples, ok)
			}
		}
	})
}

// pileAnswers returns the answers of all functions of the chapter, as text.
func pileAnswers(g impl.Graph, p []int, q int) string {
	stable, many, ok := impl.Stabilize(g, p, q)
	text := fmt.Sprint(impl.PileOk(g, p, q), impl.IsStable(g, p, q), stable, many, ok, impl.AvalancheSize(g, p, q), impl.FullPile(g, q))
	for v := range 7 {
		toppled, toppleOk := impl.Topple(g, p, q, v)
		dropped, topples, dropOk := impl.DropChip(g, p, q, v)
		text += fmt.Sprintln(toppled, toppleOk, dropped, topples, dropOk)
	}
	return text
}

// TestPileArgumentsAreKept checks that no function changes its arguments or the memory behind them, and that a second call answers the same.
func TestPileArgumentsAreKept(t *testing.T) {
	check := func(g impl.Graph, p []int, q int) {
		checkKept(t, g, p, nil, func(g impl.Graph, p []int, _ []int) string { return pileAnswers(g, p, q) })
	}
	eachPile(check)
	for _, g := range someGraphs() {
		for q := range g.N {
			check(g, impl.FullPile(g, q), q)
		}
	}
	for _, g := range badGraphs() {
		for _, n := range lengthsFor(g) {
			check(g, make([]int, n), 0)
			check(g, slices.Repeat([]int{2}, n), 0)
		}
	}
	for _, p := range wildLists() {
		check(completeGraph(4), p, 2)
	}
}

// TestPileResultsAreNew checks that results share no memory with arguments or with each other.
func TestPileResultsAreNew(t *testing.T) {
	for _, g := range someGraphs() {
		for q := range g.N {
			checkListIsNew(t, func() []int { return impl.FullPile(g, q) })
			for _, p := range append(pilesOf(g.N, q)[:8], impl.FullPile(g, q), make([]int, g.N)) {
				checkCombination(t, p, nil, func(p []int, _ []int) ([]int, bool) {
					stable, many, ok := impl.Stabilize(g, p, q)
					spoilList(many)
					return stable, ok
				})
				checkCombination(t, p, nil, func(p []int, _ []int) ([]int, bool) {
					stable, many, ok := impl.Stabilize(g, p, q)
					spoilList(stable)
					return many, ok
				})
				for v := range g.N {
					if v != q && impl.IsStable(g, p, q) {
						checkCombination(t, p, nil, func(p []int, _ []int) ([]int, bool) {
							dropped, _, ok := impl.DropChip(g, p, q, v)
							return dropped, ok
						})
					}
					if slices.Contains(unstableSlowly(g, p, q), v) {
						checkCombination(t, p, nil, func(p []int, _ []int) ([]int, bool) { return impl.Topple(g, p, q, v) })
					}
				}
			}
		}
	}
}

func TestPileCallsAtOnce(t *testing.T) {
	for _, g := range []impl.Graph{graphOf(1), parallel(12), fatTriangle(), graphOf(6, 0, 1, 1, 2, 2, 3, 3, 4, 4, 5), octahedron()} {
		q := g.N - 1
		for _, p := range [][]int{withoutSink(slices.Repeat([]int{60}, g.N), q), impl.FullPile(g, q)} {
			checkAtOnce(t, g, p, nil, func(g impl.Graph, p []int, _ []int) string { return pileAnswers(g, p, q) })
		}
	}
}

// TestNothingRunsOn checks that no goroutine goes on when the calls have returned. One that has just closed its channel may need a moment to end.
func TestNothingRunsOn(t *testing.T) {
	before := runtime.NumGoroutine()
	eachSmallPile(func(g impl.Graph, p []int, q int) { pileAnswers(g, p, q) })
	eachBadPile(func(name string, g impl.Graph, p []int, q int) { pileAnswers(g, p, q) })
	for range 1000 {
		if runtime.NumGoroutine() <= before {
			return
		}
		time.Sleep(10 * time.Millisecond)
	}
	t.Errorf("%d goroutines run on", runtime.NumGoroutine()-before)
}
