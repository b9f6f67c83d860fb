package tests

import (
	"fmt"
	"math"
	"slices"
	"testing"

	"loop.example/g00841/impl"
)

// headSlowly returns the vertex to which an edge of an orientation leads.
func headSlowly(g impl.Graph, o []int, index int) int {
	if o[index] == 0 {
		return g.Edges[index].B
	}
	return g.Edges[index].A
}

// leadingToSlowly returns how many edges of an orientation lead to a vertex.
func leadingToSlowly(g impl.Graph, o []int, v int) int {
	n := 0
	for i := range g.Edges {
		if headSlowly(g, o, i) == v {
			n++
		}
	}
	return n
}

// indegreesSlowly returns the divisor of an orientation.
func indegreesSlowly(g impl.Graph, o []int) []int {
	d := make([]int, g.N)
	for v := range d {
		d[v] = leadingToSlowly(g, o, v) - 1
	}
	return d
}

// sourcesSlowly returns the vertices to which no edge of an orientation leads.
func sourcesSlowly(g impl.Graph, o []int) []int {
	return slices.DeleteFunc(orderOf(g.N), func(v int) bool { return leadingToSlowly(g, o, v) > 0 })
}

// acyclicSlowly reports whether no vertex can be reached from itself along the edges of an orientation.
func acyclicSlowly(g impl.Graph, o []int) bool {
	var reached [6][6]bool
	for i, e := range g.Edges {
		head := headSlowly(g, o, i)
		reached[e.A+e.B-head][head] = true
	}
	for k := range g.N {
		for i := range g.N {
			for j := range g.N {
				reached[i][j] = reached[i][j] || reached[i][k] && reached[k][j]
			}
		}
	}
	for v := range g.N {
		if reached[v][v] {
			return false
		}
	}
	return true
}

// alongSlowly returns the orientation in which each edge leads from the earlier vertex of an order of all vertices to the later one.
func alongSlowly(g impl.Graph, order []int) []int {
	place := make([]int, g.N)
	for k, v := range order {
		place[v] = k
	}
	o := make([]int, len(g.Edges))
	for i, e := range g.Edges {
		if place[e.B] < place[e.A] {
			o[i] = 1
		}
	}
	return o
}

// acyclicOrients returns all acyclic orientations in lexicographic order, found by all orders of the vertices.
func acyclicOrients(g impl.Graph) [][]int {
	var all [][]int
	for _, order := range ordersOf(orderOf(g.N)) {
		all = append(all, alongSlowly(g, order))
	}
	return slices.CompactFunc(sortedLists(all), slices.Equal[[]int])
}

// rootedAt returns those orientations that have q as their only source.
func rootedAt(g impl.Graph, all [][]int, q int) [][]int {
	return slices.DeleteFunc(slices.Clone(all), func(o []int) bool { return !slices.Equal(sourcesSlowly(g, o), []int{q}) })
}

// orientsOf returns orientations of a graph: all of them if there are few, and otherwise many, the acyclic ones among them.
func orientsOf(g impl.Graph) [][]int {
	n := len(g.Edges)
	if n <= 6 {
		return boxOf(n, 0, 1)
	}
	all := [][]int{make([]int, n), slices.Repeat([]int{1}, n)}
	for i := range n {
		all = append(all, withAt(all[0], i, 1), withAt(all[1], i, 0))
	}
	for _, l := range listsOf(20, n, 60) {
		for i := range l {
			l[i] &= 1
		}
		all = append(all, l)
	}
	acyclic := acyclicOrients(g)
	for k := 0; k < len(acyclic); k += 1 + len(acyclic)/20 {
		all = append(all, acyclic[k])
	}
	return all
}

// orientGraphs returns the graphs on which orientations are tried: a few of every size, and many small ones.
func orientGraphs() []impl.Graph {
	return append(recurGraphs(), sparseGraphs(12)...)
}

// eachOrient calls check with many orientations of many graphs.
func eachOrient(check func(g impl.Graph, o []int)) {
	for _, g := range orientGraphs() {
		for _, o := range orientsOf(g) {
			check(g, o)
		}
	}
}

// eachBadOrient calls check with lists that are no orientations, of every kind.
func eachBadOrient(check func(name string, g impl.Graph, o []int)) {
	for _, g := range append(someGraphs(), pendant(), completeGraph(3)) {
		n := len(g.Edges)
		for length := range 15 {
			if length != n {
				check("another length", g, make([]int, length))
				check("another length", g, slices.Repeat([]int{1}, length))
			}
		}
		check("very long", g, make([]int, 5000))
		for i := range n {
			for _, x := range append(beyond(1), 3, 4, 256, -256) {
				check("no direction", g, withAt(make([]int, n), i, x))
				check("no direction", g, withAt(slices.Repeat([]int{1}, n), i, x))
			}
		}
	}
	for name, g := range badGraphs() {
		for _, n := range append(lengthsFor(g), len(g.Edges)) {
			check(name, g, make([]int, n))
			check(name, g, slices.Repeat([]int{1}, n))
			check(name, g, slices.Repeat([]int{math.MinInt}, n))
		}
	}
}

// orientCase is an orientation with its divisor and its sources.
type orientCase struct {
	g       impl.Graph
	o       []int
	d       []int
	sources []int
	acyclic bool
}

func orientCases() []orientCase {
	fat, path, full := fatTriangle(), graphOf(3, 0, 1, 1, 2), completeGraph(4)
	return []orientCase{
		{fat, []int{0, 0, 0, 0}, []int{-1, 1, 1}, []int{0}, true}, {fat, []int{1, 1, 1, 1}, []int{2, 0, -1}, []int{2}, true}, {fat, []int{0, 1, 0, 0}, []int{0, 0, 1}, nil, false}, {fat, []int{1, 0, 0, 0}, []int{0, 0, 1}, nil, false},
		{fat, []int{0, 0, 1, 0}, []int{0, 1, 0}, nil, false}, {fat, []int{1, 1, 0, 1}, []int{1, 0, 0}, nil, false}, {fat, []int{0, 1, 0, 1}, []int{0, 1, 0}, nil, false}, {fat, []int{1, 1, 0, 0}, []int{1, -1, 1}, []int{1}, true}, {fat, []int{1, 1, 1, 0}, []int{2, -1, 0}, []int{1}, true}, {fat, []int{0, 0, 0, 1}, []int{-1, 2, 0}, []int{0}, true}, {fat, []int{0, 0, 1, 1}, []int{0, 2, -1}, []int{2}, true},
		{graphOf(1), nil, []int{-1}, []int{0}, true}, {graphOf(1), []int{}, []int{-1}, []int{0}, true}, {parallel(1), []int{0}, []int{-1, 0}, []int{0}, true}, {parallel(1), []int{1}, []int{0, -1}, []int{1}, true}, {parallel(2), []int{0, 1}, []int{0, 0}, nil, false},
		{parallel(12), make([]int, 12), []int{-1, 11}, []int{0}, true}, {parallel(12), slices.Repeat([]int{1}, 12), []int{11, -1}, []int{1}, true}, {parallel(12), withAt(make([]int, 12), 11, 1), []int{0, 10}, nil, false}, {parallel(12), withAt(slices.Repeat([]int{1}, 12), 0, 0), []int{10, 0}, nil, false},
		{path, []int{0, 0}, []int{-1, 0, 0}, []int{0}, true}, {path, []int{0, 1}, []int{-1, 1, -1}, []int{0, 2}, true}, {path, []int{1, 0}, []int{0, -1, 0}, []int{1}, true}, {path, []int{1, 1}, []int{0, 0, -1}, []int{2}, true},
		{full, make([]int, 6), []int{-1, 0, 1, 2}, []int{0}, true}, {full, slices.Repeat([]int{1}, 6), []int{2, 1, 0, -1}, []int{3}, true}, {full, []int{0, 0, 1, 0, 0, 0}, []int{0, 0, 1, 1}, nil, false}, {full, []int{0, 0, 0, 0, 1, 0}, []int{-1, 1, 1, 1}, []int{0}, false}, {full, []int{1, 1, 1, 0, 1, 0}, []int{2, 0, 0, 0}, nil, false},
		{graphOf(5, 0, 4, 1, 4, 2, 4, 3, 4), []int{0, 0, 0, 0}, []int{-1, -1, -1, -1, 3}, []int{0, 1, 2, 3}, true}, {graphOf(5, 0, 4, 1, 4, 2, 4, 3, 4), []int{1, 1, 1, 1}, []int{0, 0, 0, 0, -1}, []int{4}, true},
		// A cycle behind a source, and a source behind which there is none.
		{graphOf(4, 0, 1, 1, 2, 1, 3, 2, 3), []int{0, 0, 1, 0}, []int{-1, 1, 0, 0}, []int{0}, false}, {graphOf(4, 0, 1, 1, 2, 1, 3, 2, 3), []int{1, 0, 0, 0}, []int{0, -1, 0, 1}, []int{1}, true},
		{octahedron(), make([]int, 12), []int{-1, 0, 1, 1, 2, 3}, []int{0}, true},
	}
}

func TestOrientsByHand(t *testing.T) {
	for _, c := range orientCases() {
		if !impl.OrientOk(c.g, c.o) {
			t.Errorf("OrientOk(%v, %v) = false", c.g, c.o)
		}
		if d, ok := impl.DivisorOfOrient(c.g, c.o); !ok || !slices.Equal(d, c.d) {
			t.Errorf("DivisorOfOrient(%v, %v) = %v, %v, want %v", c.g, c.o, d, ok, c.d)
		}
		if got := impl.IsAcyclic(c.g, c.o); got != c.acyclic {
			t.Errorf("IsAcyclic(%v, %v) = %v", c.g, c.o, got)
		}
		if got := impl.SourcesOf(c.g, c.o); !slices.Equal(got, c.sources) {
			t.Errorf("SourcesOf(%v, %v) = %v, want %v", c.g, c.o, got, c.sources)
		}
	}
}

// TestOrientsAreExact compares the functions of one orientation with their definitions, and checks that the degree of the divisor is the genus minus 1 and that the orientation the other way has the residual divisor.
func TestOrientsAreExact(t *testing.T) {
	answers, many := map[bool]int{}, map[int]int{}
	eachOrient(func(g impl.Graph, o []int) {
		d, ok := impl.DivisorOfOrient(g, o)
		if !impl.OrientOk(g, o) || !ok || !slices.Equal(d, indegreesSlowly(g, o)) || impl.DegreeOf(d) != len(g.Edges)-g.N {
			t.Fatalf("OrientOk and DivisorOfOrient(%v, %v) = %v, %v and %v", g, o, impl.OrientOk(g, o), d, ok)
		}
		if back, ok := impl.DivisorOfOrient(g, impl.ReverseOrient(o)); !ok || !slices.Equal(plus(d, back), canonicalSlowly(g)) {
			t.Fatalf("%v on %v has the divisor %v, and the other way %v, %v", o, g, d, back, ok)
		}
		sources, acyclic := sourcesSlowly(g, o), acyclicSlowly(g, o)
		answers[acyclic]++
		many[len(sources)]++
		if got := impl.IsAcyclic(g, o); got != acyclic || impl.IsAcyclic(g, impl.ReverseOrient(o)) != acyclic {
			t.Fatalf("IsAcyclic(%v, %v) = %v", g, o, got)
		}
		if got := impl.SourcesOf(g, o); !slices.Equal(got, sources) || acyclic && len(got) == 0 {
			t.Fatalf("SourcesOf(%v, %v) = %v, want %v", g, o, got, sources)
		}
	})
	if answers[true] < 1000 || answers[false] < 1000 || min(many[0], many[1], many[2]) < 100 {
		t.Errorf("the answers are %v, the numbers of sources %v", answers, many)
	}
}

func TestReverseOrient(t *testing.T) {
	for _, c := range []struct{ o, want []int }{
		{nil, nil}, {[]int{}, nil}, {[]int{0}, []int{1}}, {[]int{1}, []int{0}}, {[]int{0, 1, 5}, []int{1, 0, 0}}, {[]int{0, 0, 1, 1, 0}, []int{1, 1, 0, 0, 1}},
		{[]int{-1, 2, 256, -256, 1 << 32, -1 << 32}, make([]int, 6)}, {[]int{math.MinInt, 0, math.MaxInt, 1}, []int{0, 1, 0, 0}}, {make([]int, 100), slices.Repeat([]int{1}, 100)},
	} {
		if got := impl.ReverseOrient(c.o); !slices.Equal(got, c.want) {
			t.Errorf("ReverseOrient(%v) = %v, want %v", c.o, got, c.want)
		}
	}
	eachOrient(func(g impl.Graph, o []int) {
		back := impl.ReverseOrient(o)
		if len(back) != len(o) || !slices.Equal(plus(o, back), slices.Repeat([]int{1}, len(o))) || !slices.Equal(impl.ReverseOrient(back), o) {
			t.Fatalf("ReverseOrient(%v) = %v", o, back)
		}
	})
	for _, l := range wildLists() {
		for i, x := range impl.ReverseOrient(l) {
			if x == 1 != (l[i] == 0) || x != 0 && x != 1 {
				t.Fatalf("ReverseOrient(%v) has %d at %d", l, x, i)
			}
		}
	}
}

func TestOrientByBurning(t *testing.T) {
	fat, path, full := fatTriangle(), graphOf(3, 0, 1, 1, 2), completeGraph(4)
	for _, c := range []struct {
		g    impl.Graph
		d    []int
		q    int
		want []int
	}{
		{fat, []int{-2, 2, 0}, 0, []int{0, 0, 0, 1}}, {fat, []int{60, 2, 0}, 0, []int{0, 0, 0, 1}}, {fat, []int{-60, 0, 0}, 0, []int{0, 0, 0, 0}}, {fat, []int{0, 1, 1}, 0, []int{0, 0, 0, 0}}, {fat, []int{0, 0, 0}, 1, []int{1, 1, 0, 0}}, {fat, []int{2, 60, 0}, 1, []int{1, 1, 1, 0}}, {fat, []int{0, 0, 0}, 2, []int{0, 0, 1, 1}}, {fat, []int{1, 0, 0}, 2, []int{1, 1, 1, 1}},
		{fat, []int{0, 2, 1}, 0, nil}, {fat, []int{0, 3, 0}, 0, nil}, {fat, []int{2, 60, 1}, 1, nil}, {fat, []int{0, 2, 0}, 3, nil}, {fat, []int{0, 2, 0}, -1, nil}, {fat, []int{0, 61, 0}, 0, nil}, {fat, []int{-61, 2, 0}, 0, nil}, {fat, []int{0, 2}, 0, nil}, {fat, nil, 0, nil},
		{graphOf(1), []int{0}, 0, []int{}}, {graphOf(1), []int{60}, 0, []int{}}, {graphOf(1), []int{-60}, 0, []int{}}, {graphOf(1), []int{61}, 0, nil}, {graphOf(1), []int{0}, 1, nil}, {graphOf(1), nil, 0, nil},
		{parallel(12), []int{0, 11}, 0, make([]int, 12)}, {parallel(12), []int{11, 0}, 1, slices.Repeat([]int{1}, 12)}, {parallel(12), []int{0, 12}, 0, nil},
		{path, []int{0, 0, 0}, 0, []int{0, 0}}, {path, []int{0, 0, 0}, 1, []int{1, 0}}, {path, []int{0, 0, 0}, 2, []int{1, 1}}, {path, []int{0, 1, 0}, 0, nil},
		// A vertex in debt burns before the fire comes to it.
		{path, []int{0, 1, -1}, 0, []int{0, 1}}, {path, []int{0, 2, -1}, 0, nil}, {path, []int{0, 0, -60}, 0, []int{0, 0}},
		{full, []int{2, 1, 0, 60}, 3, []int{1, 1, 1, 1, 1, 1}}, {full, []int{1, 0, 2, 0}, 3, []int{1, 0, 1, 0, 1, 1}}, {full, []int{0, 0, 0, 0}, 2, []int{0, 1, 0, 1, 0, 0}}, {full, []int{1, 1, 1, 0}, 3, nil},
		{graphOf(0), nil, 0, nil}, {graphOf(3, 0, 1), []int{0, 0, 0}, 0, nil}, {graphOf(3, 1, 2, 0, 1), []int{0, 0, 0}, 0, nil},
	} {
		if got, ok := impl.OrientByBurning(c.g, c.d, c.q); ok != (c.want != nil) || !slices.Equal(got, c.want) {
			t.Errorf("OrientByBurning(%v, %v, %d) = %v, %v, want %v", c.g, c.d, c.q, got, ok, c.want)
		}
	}
}

// TestOrientByBurningIsExact compares OrientByBurning with its definition, and checks that the orientation is acyclic and, if no vertex beside q is in debt, has q as its only source and a divisor with at least as many chips beside q.
func TestOrientByBurningIsExact(t *testing.T) {
	answers := map[bool]int{}
	eachReduction(func(g impl.Graph, d []int, q int) {
		order := burnSlowly(g, d, q)
		o, ok := impl.OrientByBurning(g, d, q)
		answers[ok]++
		if len(order) < g.N {
			if !isFailure(o, ok) {
				t.Fatalf("OrientByBurning(%v, %v, %d) = %v, %v, but only %v burn", g, d, q, o, ok, order)
			}
			return
		}
		if !ok || !slices.Equal(o, alongSlowly(g, order)) || !acyclicSlowly(g, o) || slices.Index(sourcesSlowly(g, o), q) < 0 {
			t.Fatalf("OrientByBurning(%v, %v, %d) = %v, %v, but the order is %v", g, d, q, o, ok, order)
		}
		if !debtBeside(d, q) && (len(sourcesSlowly(g, o)) > 1 || debtBeside(minus(indegreesSlowly(g, o), d), q)) {
			t.Fatalf("OrientByBurning(%v, %v, %d) = %v with the divisor %v", g, d, q, o, indegreesSlowly(g, o))
		}
	})
	if answers[true] < 1000 || answers[false] < 1000 {
		t.Errorf("the answers are %v", answers)
	}
}

// TestParkingsAreOrients checks that OrientByBurning leads from the parking functions with the most chips to the acyclic orientations with the only source q, one to one, and DivisorOfOrient back.
func TestParkingsAreOrients(t *testing.T) {
	for _, g := range recurGraphs() {
		all := acyclicOrients(g)
		for q := range g.N {
			var found [][]int
			for _, f := range parkingsSlowly(g, q) {
				o, ok := impl.OrientByBurning(g, f, q)
				if !ok || !slices.Equal(sourcesSlowly(g, o), []int{q}) {
					t.Fatalf("OrientByBurning(%v, %v, %d) = %v, %v", g, f, q, o, ok)
				}
				if impl.DegreeOf(f) < len(g.Edges)-g.N {
					continue
				}
				found = append(found, o)
				if d, ok := impl.DivisorOfOrient(g, o); !ok || !slices.Equal(d, f) {
					t.Fatalf("OrientByBurning(%v, %v, %d) = %v with the divisor %v, %v", g, f, q, o, d, ok)
				}
			}
			if want := rootedAt(g, all, q); !sameMatrix(sortedLists(found), want) {
				t.Fatalf("the parking functions of %v for %d lead to %v, want %v", g, q, found, want)
			}
		}
	}
}

func TestFlipSource(t *testing.T) {
	fat, path, star := fatTriangle(), graphOf(3, 0, 1, 1, 2), graphOf(5, 0, 4, 1, 4, 2, 4, 3, 4)
	for _, c := range []struct {
		g    impl.Graph
		o    []int
		v    int
		want []int
	}{
		{fat, []int{0, 0, 0, 1}, 0, []int{1, 1, 1, 1}}, {fat, []int{0, 0, 0, 0}, 0, []int{1, 1, 1, 0}}, {fat, []int{1, 1, 1, 1}, 2, []int{1, 1, 0, 0}}, {fat, []int{1, 1, 0, 0}, 1, []int{0, 0, 0, 1}}, {fat, []int{1, 1, 1, 0}, 1, []int{0, 0, 1, 1}},
		{fat, []int{0, 0, 0, 1}, 1, nil}, {fat, []int{0, 0, 0, 1}, 2, nil}, {fat, []int{0, 1, 0, 0}, 0, nil}, {fat, []int{0, 1, 0, 0}, 1, nil}, {fat, []int{0, 0, 0, 1}, 3, nil}, {fat, []int{0, 0, 0, 1}, -1, nil}, {fat, []int{0, 0, 0, 1}, math.MaxInt, nil}, {fat, []int{0, 0, 0, 1}, math.MinInt, nil}, {fat, []int{0, 0, 2, 1}, 0, nil}, {fat, []int{0, 0, 0}, 0, nil}, {fat, nil, 0, nil},
		{graphOf(1), nil, 0, []int{}}, {graphOf(1), nil, 1, nil}, {graphOf(1), nil, -1, nil}, {graphOf(1), []int{0}, 0, nil}, {parallel(1), []int{0}, 0, []int{1}}, {parallel(1), []int{0}, 1, nil}, {parallel(1), []int{1}, 1, []int{0}},
		{parallel(12), make([]int, 12), 0, slices.Repeat([]int{1}, 12)}, {parallel(12), slices.Repeat([]int{1}, 12), 1, make([]int, 12)}, {parallel(12), withAt(make([]int, 12), 7, 1), 0, nil},
		{path, []int{0, 1}, 0, []int{1, 1}}, {path, []int{0, 1}, 2, []int{0, 0}}, {path, []int{0, 1}, 1, nil}, {path, []int{1, 0}, 1, []int{0, 1}}, {star, []int{0, 0, 0, 0}, 2, []int{0, 0, 1, 0}}, {star, []int{1, 1, 1, 1}, 4, []int{0, 0, 0, 0}},
		// A source before a cycle.
		{graphOf(4, 0, 1, 1, 2, 1, 3, 2, 3), []int{0, 0, 1, 0}, 0, []int{1, 0, 1, 0}}, {graphOf(0), nil, 0, nil}, {graphOf(2), nil, 0, nil}, {graphOf(3, 0, 1), []int{0}, 0, nil},
	} {
		if got, ok := impl.FlipSource(c.g, c.o, c.v); ok != (c.want != nil) || !slices.Equal(got, c.want) {
			t.Errorf("FlipSource(%v, %v, %d) = %v, %v, want %v", c.g, c.o, c.v, got, ok, c.want)
		}
	}
}

// TestFlipSourceIsExact compares FlipSource with its definition, and checks that the source borrows once and that no cycle comes or goes.
func TestFlipSourceIsExact(t *testing.T) {
	answers := map[bool]int{}
	eachOrient(func(g impl.Graph, o []int) {
		sources := sourcesSlowly(g, o)
		for v := range g.N {
			got, ok := impl.FlipSource(g, o, v)
			answers[ok]++
			if !slices.Contains(sources, v) {
				if !isFailure(got, ok) {
					t.Fatalf("FlipSource(%v, %v, %d) = %v, %v", g, o, v, got, ok)
				}
				continue
			}
			want := slices.Clone(o)
			for i, e := range g.Edges {
				if e.A == v {
					want[i] = 1
				} else if e.B == v {
					want[i] = 0
				}
			}
			if !ok || !slices.Equal(got, want) || acyclicSlowly(g, got) != acyclicSlowly(g, o) {
				t.Fatalf("FlipSource(%v, %v, %d) = %v, %v, want %v", g, o, v, got, ok, want)
			}
			if d := indegreesSlowly(g, got); !slices.Equal(fireSlowly(g, d, scriptOf(g.N, []int{v})), indegreesSlowly(g, o)) {
				t.Fatalf("FlipSource(%v, %v, %d) = %v with the divisor %v", g, o, v, got, d)
			}
		}
		for _, v := range oddSinks(g)[:9] {
			if got, ok := impl.FlipSource(g, o, v); !isFailure(got, ok) {
				t.Fatalf("FlipSource(%v, %v, %d) = %v, %v", g, o, v, got, ok)
			}
		}
	})
	if answers[true] < 1000 || answers[false] < 1000 {
		t.Errorf("the answers are %v", answers)
	}
}

func TestCountAcyclic(t *testing.T) {
	for _, c := range []struct {
		g    impl.Graph
		want int
	}{
		{fatTriangle(), 2}, {graphOf(1), 1}, {parallel(1), 1}, {parallel(2), 1}, {parallel(12), 1}, {graphOf(3, 0, 1, 1, 2), 1}, {doubledPath(), 1}, {graphOf(6, 0, 5, 1, 4, 1, 5, 2, 3, 2, 4), 1},
		// In a complete graph, the vertices beside q come in any order, and in a cycle, one of them is the only sink.
		{completeGraph(3), 2}, {completeGraph(4), 6}, {completeGraph(5), 24}, {graphOf(4, 0, 1, 0, 3, 1, 2, 2, 3), 3}, {graphOf(5, 0, 1, 0, 4, 1, 2, 2, 3, 3, 4), 4}, {graphOf(6, 0, 1, 0, 2, 1, 2, 2, 3, 3, 4, 3, 5, 4, 5), 4},
		{graphOf(6, 0, 3, 0, 4, 0, 5, 1, 3, 1, 4, 1, 5, 2, 3, 2, 4, 2, 5), 31}, {octahedron(), 64},
	} {
		for q := range c.g.N {
			if got := impl.CountAcyclic(c.g, q); got != c.want {
				t.Errorf("CountAcyclic(%v, %d) = %d, want %d", c.g, q, got, c.want)
			}
		}
		for _, q := range oddSinks(c.g) {
			if got := impl.CountAcyclic(c.g, q); got != -1 {
				t.Errorf("CountAcyclic(%v, %d) = %d", c.g, q, got)
			}
		}
	}
}

// TestCountAcyclicIsExact compares CountAcyclic with all orientations, if there are few, and with the acyclic ones found by all orders of the vertices.
func TestCountAcyclicIsExact(t *testing.T) {
	for _, g := range orientGraphs() {
		all := acyclicOrients(g)
		if len(g.Edges) <= 7 {
			literal := slices.DeleteFunc(boxOf(len(g.Edges), 0, 1), func(o []int) bool { return !acyclicSlowly(g, o) })
			if !sameMatrix(literal, all) {
				t.Fatalf("the acyclic orientations of %v are %v and %v", g, literal, all)
			}
		}
		for q := range g.N {
			if got, want := impl.CountAcyclic(g, q), len(rootedAt(g, all, q)); got != want {
				t.Fatalf("CountAcyclic(%v, %d) = %d, want %d", g, q, got, want)
			}
		}
	}
}

// TestCountAcyclicIsLevelZero checks that there are as many acyclic orientations with one source as recurrent configurations with the level 0, and that the source does not matter.
func TestCountAcyclicIsLevelZero(t *testing.T) {
	for _, g := range recurGraphs() {
		for q := range g.N {
			piles, _ := impl.RecurrentPiles(g, q)
			least := 0
			for _, p := range piles {
				if level, _ := impl.LevelOf(g, p, q); level == 0 {
					least++
				}
			}
			if got := impl.CountAcyclic(g, q); got != least || got != impl.CountAcyclic(g, 0) {
				t.Fatalf("CountAcyclic(%v, %d) = %d, but %d piles have the level 0", g, q, got, least)
			}
		}
	}
}

func TestOrientOfRank(t *testing.T) {
	fat, path := fatTriangle(), graphOf(3, 0, 1, 1, 2)
	for _, c := range []struct {
		g    impl.Graph
		d    []int
		want []int
	}{
		{fat, []int{1, 0, -1}, []int{0, 0, 0, 1}}, {fat, []int{-2, 2, 0}, []int{0, 0, 0, 1}}, {fat, []int{0, 0, -1}, []int{0, 0, 0, 1}}, {fat, []int{-1, 1, 1}, []int{0, 0, 0, 0}}, {fat, []int{-60, -60, -60}, []int{0, 0, 0, 0}}, {fat, []int{-1, 0, 0}, []int{0, 0, 0, 0}},
		{fat, []int{1, 1, 0}, nil}, {fat, []int{0, 0, 0}, nil}, {fat, []int{5, 0, -5}, nil}, {fat, []int{60, 60, 60}, nil}, {fat, []int{-1, 0, 2}, nil}, {fat, []int{-61, 0, 0}, nil}, {fat, []int{-1, 0}, nil}, {fat, []int{-1, 0, 0, 0}, nil}, {fat, nil, nil}, {fat, []int{math.MinInt, 0, 0}, nil}, {fat, []int{-1, math.MaxInt, 0}, nil},
		{graphOf(1), []int{-1}, []int{}}, {graphOf(1), []int{-60}, []int{}}, {graphOf(1), []int{0}, nil}, {graphOf(1), []int{60}, nil}, {graphOf(1), []int{-61}, nil}, {graphOf(1), nil, nil},
		{path, []int{0, 0, -1}, []int{0, 0}}, {path, []int{0, 0, 0}, nil}, {path, []int{60, -60, -1}, []int{0, 0}}, {parallel(12), []int{-11, 11}, make([]int, 12)}, {parallel(12), []int{-12, 12}, nil}, {parallel(12), []int{-60, -60}, make([]int, 12)}, {parallel(1), []int{-60, -60}, []int{0}}, {parallel(1), []int{-60, 59}, []int{0}}, {parallel(1), []int{-60, 60}, nil},
		{completeGraph(4), []int{-1, 0, 1, 2}, []int{0, 0, 0, 0, 0, 0}}, {completeGraph(4), []int{-1, 2, 1, 0}, []int{0, 0, 0, 1, 1, 1}}, {completeGraph(4), []int{-1, 1, 0, 0}, []int{0, 0, 0, 1, 0, 0}}, {completeGraph(4), []int{2, 2, 2, -4}, nil}, {completeGraph(4), []int{-4, 2, 2, 2}, nil}, {completeGraph(4), []int{1, 2, 2, -4}, []int{0, 0, 0, 0, 0, 0}},
		{graphOf(6, 0, 5, 1, 4, 1, 5, 2, 3, 2, 4), slices.Repeat([]int{-60}, 6), []int{0, 0, 1, 0, 1}}, {graphOf(0), nil, nil}, {graphOf(3, 0, 1), []int{-1, 0, 0}, nil}, {graphOf(3, 1, 2, 0, 1), []int{-1, 0, 0}, nil},
	} {
		if got, ok := impl.OrientOfRank(c.g, c.d); ok != (c.want != nil) || !slices.Equal(got, c.want) {
			t.Errorf("OrientOfRank(%v, %v) = %v, %v, want %v", c.g, c.d, got, ok, c.want)
		}
	}
}

// checkRefuted checks OrientOfRank of a valid divisor, and that the orientation proves what it shall.
func checkRefuted(t *testing.T, g impl.Graph, d []int, won bool) {
	t.Helper()
	o, ok := impl.OrientOfRank(g, d)
	if won {
		if !isFailure(o, ok) {
			t.Fatalf("OrientOfRank(%v, %v) = %v, %v, but it is winnable", g, d, o, ok)
		}
		return
	}
	reduced, _ := impl.ReducedOf(g, d, 0)
	if !ok || !slices.Equal(o, alongSlowly(g, burnSlowly(g, reduced, 0))) {
		t.Fatalf("OrientOfRank(%v, %v) = %v, %v, but the reduced divisor is %v", g, d, o, ok, reduced)
	}
	if !acyclicSlowly(g, o) || !slices.Equal(sourcesSlowly(g, o), []int{0}) {
		t.Fatalf("OrientOfRank(%v, %v) = %v", g, d, o)
	}
	if slices.Min(minus(indegreesSlowly(g, o), reduced)) < 0 {
		t.Fatalf("OrientOfRank(%v, %v) = %v, which has less than %v somewhere", g, d, o, reduced)
	}
	if within(reduced) {
		if same, fine := impl.OrientByBurning(g, reduced, 0); !fine || !slices.Equal(same, o) {
			t.Fatalf("OrientOfRank(%v, %v) = %v, but OrientByBurning of %v is %v, %v", g, d, o, reduced, same, fine)
		}
	}
}

// TestLostDivisorsAreRefuted checks that exactly the divisors that are not winnable are refuted by an orientation, also those whose reduced divisor is beyond the limit of chips.
func TestLostDivisorsAreRefuted(t *testing.T) {
	answers, far := map[bool]int{}, 0
	check := func(g impl.Graph, d []int, won bool) {
		answers[won]++
		if reduced, _ := impl.ReducedOf(g, d, 0); !within(reduced) && !won {
			far++
		}
		checkRefuted(t, g, d, won)
	}
	eachDivisor(func(g impl.Graph, d []int) { check(g, d, impl.IsWinnable(g, d)) })
	eachListed(3, func(g impl.Graph, d []int) { check(g, d, impl.DegreeOf(d) >= 0 && wonSlowly(g)(d)) })
	if answers[true] < 500 || answers[false] < 500 || far < 100 {
		t.Errorf("the answers are %v, and %d divisors lead beyond the limit", answers, far)
	}
}

// TestAcyclicOrientsAreLost checks what the proofs rest on: the divisor of an acyclic orientation is not winnable, and no divisor of the degree of the genus is lost.
func TestAcyclicOrientsAreLost(t *testing.T) {
	for _, g := range groupGraphs() {
		won := wonSlowly(g)
		for _, o := range acyclicOrients(g) {
			d, ok := impl.DivisorOfOrient(g, o)
			if !ok || impl.DegreeOf(d) >= 0 && won(d) || impl.IsWinnable(g, d) {
				t.Fatalf("DivisorOfOrient(%v, %v) = %v, %v, which is winnable", g, o, d, ok)
			}
			checkRefuted(t, g, d, false)
			for v := range g.N {
				checkRefuted(t, g, plus(d, scriptOf(g.N, []int{v})), true)
			}
		}
	}
}

func TestOrientRejects(t *testing.T) {
	eachBadOrient(func(name string, g impl.Graph, o []int) {
		if impl.OrientOk(g, o) || impl.IsAcyclic(g, o) {
			t.Fatalf("%s: OrientOk and IsAcyclic(%v, %v) = %v and %v", name, g, o, impl.OrientOk(g, o), impl.IsAcyclic(g, o))
		}
		if d, ok := impl.DivisorOfOrient(g, o); !isFailure(d, ok) {
			t.Fatalf("%s: DivisorOfOrient(%v, %v) = %v, %v", name, g, o, d, ok)
		}
		if got := impl.SourcesOf(g, o); len(got) != 0 {
			t.Fatalf("%s: SourcesOf(%v, %v) = %v", name, g, o, got)
		}
		for v := range max(1, min(g.N, 7)) {
			if got, ok := impl.FlipSource(g, o, v); !isFailure(got, ok) {
				t.Fatalf("%s: FlipSource(%v, %v, %d) = %v, %v", name, g, o, v, got, ok)
			}
		}
	})
}

func TestOrientOfDivisorRejects(t *testing.T) {
	eachBadReduction(func(name string, g impl.Graph, d []int, q int) {
		if o, ok := impl.OrientByBurning(g, d, q); !isFailure(o, ok) {
			t.Fatalf("%s: OrientByBurning(%v, %v, %d) = %v, %v", name, g, d, q, o, ok)
		}
	})
	eachBadDivisor(func(name string, g impl.Graph, d []int) {
		if o, ok := impl.OrientOfRank(g, d); !isFailure(o, ok) {
			t.Fatalf("%s: OrientOfRank(%v, %v) = %v, %v", name, g, d, o, ok)
		}
	})
	// All of them would be lost if only they were valid.
	for name, g := range badGraphs() {
		for _, n := range lengthsFor(g) {
			if o, ok := impl.OrientOfRank(g, slices.Repeat([]int{-1}, n)); !isFailure(o, ok) {
				t.Fatalf("%s: OrientOfRank(%v) of %d debts = %v, %v", name, g, n, o, ok)
			}
		}
	}
	eachBadSink(func(name string, g impl.Graph, q int) {
		if got := impl.CountAcyclic(g, q); got != -1 {
			t.Fatalf("%s: CountAcyclic(%v, %d) = %d", name, g, q, got)
		}
	})
}

// orientAnswers returns the answers of all functions of the chapter, as text. The second list is taken as a divisor.
func orientAnswers(g impl.Graph, o []int, d []int, q int) string {
	degrees, degreesOk := impl.DivisorOfOrient(g, o)
	burnt, burntOk := impl.OrientByBurning(g, d, q)
	flipped, flippedOk := impl.FlipSource(g, o, q)
	proof, proofOk := impl.OrientOfRank(g, d)
	return fmt.Sprint(impl.OrientOk(g, o), degrees, degreesOk, impl.ReverseOrient(o), impl.IsAcyclic(g, o), impl.SourcesOf(g, o), burnt, burntOk, flipped, flippedOk, impl.CountAcyclic(g, q), proof, proofOk)
}

// TestOrientArgumentsAreKept checks that no function changes its arguments or the memory behind them, and that a second call answers the same.
func TestOrientArgumentsAreKept(t *testing.T) {
	at := func(q int) func(impl.Graph, []int, []int) string {
		return func(g impl.Graph, o []int, d []int) string { return orientAnswers(g, o, d, q) }
	}
	for _, g := range groupGraphs() {
		for q := range g.N {
			all, rooted := orientsOf(g), rootedAt(g, acyclicOrients(g), q)
			for k, d := range append(divisorsOf(g.N)[:12], make([]int, g.N), slices.Repeat([]int{-60}, g.N), parkingsSlowly(g, q)[0]) {
				checkKept(t, g, all[(7*k+q)%len(all)], d, at(q))
				checkKept(t, g, rooted[k%len(rooted)], d, at(q))
			}
			checkKept(t, g, make([]int, g.N), make([]int, len(g.Edges)), at(q))
		}
	}
	checkOddKept(t, at(2))
}

// TestOrientResultsAreNew checks that results share no memory with arguments or with each other.
func TestOrientResultsAreNew(t *testing.T) {
	for _, g := range groupGraphs() {
		acyclic := acyclicOrients(g)
		for _, o := range [][]int{acyclic[0], acyclic[len(acyclic)/2], acyclic[len(acyclic)-1]} {
			checkCombination(t, o, nil, func(o []int, _ []int) ([]int, bool) { return impl.DivisorOfOrient(g, o) })
			checkCombination(t, o, nil, func(o []int, _ []int) ([]int, bool) { return impl.ReverseOrient(o), true })
			checkCombination(t, o, nil, func(o []int, _ []int) ([]int, bool) { return impl.SourcesOf(g, o), true })
			for _, v := range sourcesSlowly(g, o) {
				checkCombination(t, o, nil, func(o []int, _ []int) ([]int, bool) { return impl.FlipSource(g, o, v) })
			}
			lost := indegreesSlowly(g, o)
			checkCombination(t, lost, nil, func(d []int, _ []int) ([]int, bool) { return impl.OrientOfRank(g, d) })
			checkCombination(t, make([]int, g.N), nil, func(d []int, _ []int) ([]int, bool) { return impl.OrientByBurning(g, d, g.N-1) })
		}
		for q := range g.N {
			f := parkingsSlowly(g, q)[0]
			checkCombination(t, f, nil, func(f []int, _ []int) ([]int, bool) { return impl.OrientByBurning(g, f, q) })
		}
	}
}

func TestOrientCallsAtOnce(t *testing.T) {
	for _, g := range []impl.Graph{graphOf(1), parallel(12), fatTriangle(), doubledPath(), completeGraph(4), octahedron()} {
		q := g.N - 1
		for _, o := range acyclicOrients(g)[:1] {
			for _, d := range [][]int{make([]int, g.N), indegreesSlowly(g, o)} {
				checkAtOnce(t, g, o, d, func(g impl.Graph, o []int, d []int) string { return orientAnswers(g, o, d, q) })
			}
		}
	}
}
