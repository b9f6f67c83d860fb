package tests

import (
	"math"
	"slices"
	"sort"
	"testing"

	"loop.example/g00841/impl"
)

// graphOf returns a graph with n vertices and the edges between the given pairs of ends.
func graphOf(n int, ends ...int) impl.Graph {
	g := impl.Graph{N: n}
	for i := 0; i+1 < len(ends); i += 2 {
		g.Edges = append(g.Edges, impl.Edge{A: ends[i], B: ends[i+1]})
	}
	return g
}

// parallel returns a graph with two vertices and n edges between them.
func parallel(n int) impl.Graph {
	return impl.Graph{N: 2, Edges: slices.Repeat([]impl.Edge{{A: 0, B: 1}}, n)}
}

// completeGraph returns the graph with one edge between each two of n vertices.
func completeGraph(n int) impl.Graph {
	g := impl.Graph{N: n}
	for a := range n {
		for b := a + 1; b < n; b++ {
			g.Edges = append(g.Edges, impl.Edge{A: a, B: b})
		}
	}
	return g
}

// oddInts returns ints that are no vertex of any valid graph, the extreme ones among them.
func oddInts() []int {
	return []int{-1, -2, 6, 7, math.MinInt, math.MinInt + 1, math.MaxInt - 1, math.MaxInt}
}

// badEdges returns graphs for which EdgesOk is false.
func badEdges() map[string]impl.Graph {
	return map[string]impl.Graph{
		"no vertices":            {},
		"no vertices, one edge":  graphOf(0, 0, 1),
		"one vertex less":        graphOf(-1),
		"least number":           graphOf(math.MinInt, 0, 1),
		"greatest number":        graphOf(math.MaxInt, 0, 1),
		"seven vertices":         graphOf(7, 0, 1, 1, 2, 2, 3, 3, 4, 4, 5, 5, 6),
		"thirteen edges":         parallel(13),
		"fifteen edges":          completeGraph(6),
		"loop":                   graphOf(2, 0, 0, 0, 1),
		"last loop":              graphOf(2, 0, 1, 1, 1),
		"loop at the one vertex": graphOf(1, 0, 0),
		"backward":               graphOf(2, 1, 0),
		"backward at the end":    graphOf(3, 0, 1, 2, 1),
		"negative end":           graphOf(2, -1, 1, 0, 1),
		"two negative ends":      graphOf(2, -2, -1, 0, 1),
		"end beyond":             graphOf(2, 0, 1, 0, 2),
		"both ends beyond":       graphOf(2, 0, 1, 2, 3),
		"edge at one vertex":     graphOf(1, 0, 1),
		"least end":              graphOf(2, math.MinInt, 1, 0, 1),
		"greatest end":           graphOf(2, 0, 1, 0, math.MaxInt),
		"extreme ends":           graphOf(2, 0, 1, math.MinInt, math.MaxInt),
	}
}

// badOrders returns graphs for which EdgesOk is true and GraphOk is false.
func badOrders() map[string]impl.Graph {
	return map[string]impl.Graph{
		"unordered by A":           graphOf(3, 1, 2, 0, 1),
		"unordered by A, less B":   graphOf(4, 1, 2, 0, 3),
		"unordered by B":           graphOf(3, 0, 2, 0, 1),
		"unordered at the end":     graphOf(3, 0, 1, 1, 2, 0, 2),
		"equal edges apart":        graphOf(3, 0, 1, 1, 2, 0, 1),
		"two vertices apart":       graphOf(2),
		"six vertices, no edges":   graphOf(6),
		"vertex 0 alone":           graphOf(3, 1, 2),
		"last vertex alone":        graphOf(3, 0, 1),
		"middle vertex alone":      graphOf(3, 0, 2),
		"two parts":                graphOf(4, 0, 1, 2, 3),
		"two parts with cycles":    graphOf(6, 0, 1, 0, 2, 1, 2, 3, 4, 3, 5, 4, 5),
		"twelve edges, one vertex": {N: 3, Edges: slices.Repeat([]impl.Edge{{A: 0, B: 1}}, 12)},
	}
}

// badGraphs returns graphs for which GraphOk is false, of every kind.
func badGraphs() map[string]impl.Graph {
	all := badEdges()
	for name, g := range badOrders() {
		all[name] = g
	}
	return all
}

// goodGraphs returns valid graphs: small ones with parallel edges, and larger ones.
func goodGraphs() []impl.Graph {
	var all []impl.Graph
	for n := 1; n <= 4; n++ {
		all = append(all, multigraphs(n, 2)...)
	}
	all = append(all, multigraphs(2, 12)...)
	all = append(all, multigraphs(5, 1)...)
	for i, g := range multigraphs(6, 1) {
		if i%37 == 0 || len(g.Edges) == 5 && i%3 == 0 || len(g.Edges) == 12 {
			all = append(all, g)
		}
	}
	return all
}

// multigraphs returns the connected graphs with n vertices, each two of them joined by at most most edges.
func multigraphs(n int, most int) []impl.Graph {
	partial := []impl.Graph{{N: n}}
	for _, e := range completeGraph(n).Edges {
		var next []impl.Graph
		for _, g := range partial {
			for k := 0; k <= most && len(g.Edges)+k <= 12; k++ {
				edges := append(slices.Clone(g.Edges), slices.Repeat([]impl.Edge{e}, k)...)
				next = append(next, impl.Graph{N: n, Edges: edges})
			}
		}
		partial = next
	}
	return slices.DeleteFunc(partial, func(g impl.Graph) bool {
		return slices.Contains(pathLengths(g)[0], far)
	})
}

// far is more than any distance in a graph.
const far = 1000

// pathLengths returns the distances between all vertices, by the method of Floyd and Warshall.
func pathLengths(g impl.Graph) [][]int {
	d := make([][]int, g.N)
	for i := range d {
		d[i] = slices.Repeat([]int{far}, g.N)
		d[i][i] = 0
	}
	for _, e := range g.Edges {
		d[e.A][e.B], d[e.B][e.A] = 1, 1
	}
	for k := range d {
		for i := range d {
			for j := range d {
				d[i][j] = min(d[i][j], d[i][k]+d[k][j])
			}
		}
	}
	for i := range d {
		for j := range d {
			d[i][j] = min(d[i][j], far)
		}
	}
	return d
}

// edgesOkSlowly is EdgesOk by its definition.
func edgesOkSlowly(g impl.Graph) bool {
	ok := 1 <= g.N && g.N <= 6 && len(g.Edges) <= 12
	for _, e := range g.Edges {
		ok = ok && 0 <= e.A && e.A < e.B && e.B < g.N
	}
	return ok
}

// graphOkSlowly is GraphOk by its definition.
func graphOkSlowly(g impl.Graph) bool {
	return edgesOkSlowly(g) && slices.Equal(g.Edges, sortedEdges(g.Edges)) && !slices.Contains(pathLengths(g)[0], far)
}

// sortedEdges returns a sorted copy of edges.
func sortedEdges(edges []impl.Edge) []impl.Edge {
	l := slices.Clone(edges)
	sort.Slice(l, func(i, j int) bool {
		return l[i].A < l[j].A || l[i].A == l[j].A && l[i].B < l[j].B
	})
	return l
}

// edgeLists returns all lists of at most n edges whose ends are from -1 to 3.
func edgeLists(n int) [][]impl.Edge {
	all := [][]impl.Edge{nil}
	layer := all
	for range n {
		var next [][]impl.Edge
		for _, l := range layer {
			for a := -1; a <= 3; a++ {
				for b := -1; b <= 3; b++ {
					next = append(next, append(slices.Clone(l), impl.Edge{A: a, B: b}))
				}
			}
		}
		all = append(all, next...)
		layer = next
	}
	return all
}

// zeroGraph reports whether a graph is the zero value.
func zeroGraph(g impl.Graph) bool {
	return g.N == 0 && len(g.Edges) == 0
}

func TestGraphConstants(t *testing.T) {
	if impl.MaxVertices != 6 || impl.MaxEdges != 12 {
		t.Errorf("MaxVertices = %d, MaxEdges = %d", impl.MaxVertices, impl.MaxEdges)
	}
}

func TestEdgesOk(t *testing.T) {
	good := []impl.Graph{
		graphOf(1), graphOf(2), graphOf(6), {N: 1, Edges: []impl.Edge{}}, graphOf(6, 4, 5), graphOf(6, 0, 5),
		parallel(12), graphOf(3, 1, 2, 0, 1), graphOf(3, 0, 1, 1, 2, 0, 1),
	}
	for _, g := range good {
		if !impl.EdgesOk(g) {
			t.Errorf("EdgesOk(%v) = false", g)
		}
	}
	for name, g := range badEdges() {
		if impl.EdgesOk(g) {
			t.Errorf("%s: EdgesOk(%v) = true", name, g)
		}
	}
	for name, g := range badOrders() {
		if !impl.EdgesOk(g) {
			t.Errorf("%s: EdgesOk(%v) = false", name, g)
		}
	}
}

func TestGraphOk(t *testing.T) {
	good := []impl.Graph{
		graphOf(1), {N: 1, Edges: []impl.Edge{}}, parallel(1), parallel(12), graphOf(3, 0, 2, 1, 2),
		graphOf(6, 0, 5, 1, 5, 2, 5, 3, 5, 4, 5), graphOf(4, 0, 3, 1, 2, 1, 3), graphOf(4, 0, 1, 0, 1, 1, 2, 2, 3, 2, 3),
		graphOf(6, 0, 5, 1, 4, 1, 5, 2, 3, 2, 4),
	}
	for _, g := range good {
		if !impl.GraphOk(g) {
			t.Errorf("GraphOk(%v) = false", g)
		}
	}
	for name, g := range badGraphs() {
		if impl.GraphOk(g) {
			t.Errorf("%s: GraphOk(%v) = true", name, g)
		}
	}
}

// TestValidityIsExact compares EdgesOk and GraphOk with their definitions on all short edge lists.
func TestValidityIsExact(t *testing.T) {
	for _, edges := range edgeLists(3) {
		for n := -1; n <= 4; n++ {
			g := impl.Graph{N: n, Edges: edges}
			if impl.EdgesOk(g) != edgesOkSlowly(g) {
				t.Fatalf("EdgesOk(%v) is wrong", g)
			}
			if impl.GraphOk(g) != graphOkSlowly(g) {
				t.Fatalf("GraphOk(%v) is wrong", g)
			}
		}
	}
	for _, g := range goodGraphs() {
		if !impl.EdgesOk(g) || !impl.GraphOk(g) {
			t.Fatalf("%v is not accepted", g)
		}
	}
}

// TestEdgeSubsets compares GraphOk with its definition on all graphs with six vertices and no parallel edges.
func TestEdgeSubsets(t *testing.T) {
	all := completeGraph(6).Edges
	for bits := range 1 << len(all) {
		g := impl.Graph{N: 6}
		for i, e := range all {
			if bits>>i&1 == 1 {
				g.Edges = append(g.Edges, e)
			}
		}
		if impl.GraphOk(g) != graphOkSlowly(g) {
			t.Fatalf("GraphOk(%v) is wrong", g)
		}
	}
}

func TestMultiplicity(t *testing.T) {
	g := graphOf(4, 0, 1, 0, 1, 0, 2, 1, 2, 1, 2, 1, 2, 2, 3)
	want := [][]int{{0, 2, 1, 0}, {2, 0, 3, 0}, {1, 3, 0, 1}, {0, 0, 1, 0}}
	for a := range 4 {
		for b := range 4 {
			if got := impl.Multiplicity(g, a, b); got != want[a][b] {
				t.Errorf("Multiplicity of %d and %d = %d, want %d", a, b, got, want[a][b])
			}
		}
	}
	odd := append(oddInts(), 4, 5)
	for _, x := range odd {
		for v := range 4 {
			if impl.Multiplicity(g, x, v) != 0 || impl.Multiplicity(g, v, x) != 0 {
				t.Errorf("there are edges between %d and %d", x, v)
			}
		}
		for _, y := range odd {
			if impl.Multiplicity(g, x, y) != 0 {
				t.Errorf("there are edges between %d and %d", x, y)
			}
		}
	}
	if impl.Multiplicity(parallel(12), 0, 1) != 12 || impl.Multiplicity(parallel(12), 1, 0) != 12 {
		t.Error("twelve edges are not counted")
	}
}

// TestCountsOfOddGraphs checks Multiplicity and Valence on graphs that are not valid, to which they give a meaning too.
func TestCountsOfOddGraphs(t *testing.T) {
	many := impl.Graph{N: 100, Edges: slices.Repeat([]impl.Edge{{A: 50, B: 60}, {A: 50, B: 99}, {A: 50, B: 100}}, 40)}
	huge := graphOf(math.MaxInt, 0, math.MaxInt-1, 0, math.MaxInt)
	cases := []struct {
		g                       impl.Graph
		a, b, between, atA, atB int
	}{
		{parallel(13), 1, 0, 13, 13, 13},
		{many, 60, 50, 40, 40, 120},
		{many, 50, 99, 40, 120, 40},
		{many, 50, 100, 0, 120, 0},
		{huge, math.MaxInt - 1, 0, 1, 1, 2},
		{huge, math.MaxInt, 0, 0, 0, 2},
		{graphOf(3, 1, 2, 0, 1, 1, 2), 1, 2, 2, 3, 2},
		{graphOf(4, 2, 3), 0, 1, 0, 0, 0},
		{graphOf(4, 2, 3), 2, 3, 1, 1, 1},
		{graphOf(2, 1, 0), 0, 1, 0, 1, 1},
		{graphOf(2, 1, 0), 1, 0, 0, 1, 1},
		{graphOf(2, 0, 1, 1, 0), 1, 0, 1, 2, 2},
		{graphOf(2, 0, 0, 0, 1), 0, 1, 1, 2, 1},
		{graphOf(2, 0, 0, 0, 1), 0, 0, 0, 2, 2},
		{graphOf(2, 0, 1, 0, 2, -1, 1), 0, 1, 1, 2, 2},
		{graphOf(2, 0, 1, 0, 2, -1, 1), 0, 2, 0, 2, 0},
		{graphOf(2, 0, 1, 0, 2, -1, 1), -1, 1, 0, 0, 2},
		{graphOf(0, 0, 1), 0, 1, 0, 0, 0},
		{graphOf(-5, 0, 1), 0, 1, 0, 0, 0},
		{graphOf(math.MinInt, 0, 1), 0, 1, 0, 0, 0},
		{graphOf(2, math.MinInt, math.MaxInt), math.MinInt, math.MaxInt, 0, 0, 0},
	}
	for _, c := range cases {
		if got := impl.Multiplicity(c.g, c.a, c.b); got != c.between {
			t.Errorf("Multiplicity(%v, %d, %d) = %d, want %d", c.g, c.a, c.b, got, c.between)
		}
		if got := impl.Valence(c.g, c.a); got != c.atA {
			t.Errorf("Valence(%v, %d) = %d, want %d", c.g, c.a, got, c.atA)
		}
		if got := impl.Valence(c.g, c.b); got != c.atB {
			t.Errorf("Valence(%v, %d) = %d, want %d", c.g, c.b, got, c.atB)
		}
	}
}

func TestValence(t *testing.T) {
	g := graphOf(4, 0, 1, 0, 1, 0, 2, 1, 2, 1, 2, 1, 2, 2, 3)
	for v, want := range []int{3, 5, 5, 1} {
		if got := impl.Valence(g, v); got != want {
			t.Errorf("Valence of %d = %d, want %d", v, got, want)
		}
	}
	for _, v := range append(oddInts(), 4, 5) {
		if got := impl.Valence(g, v); got != 0 {
			t.Errorf("Valence of %d = %d", v, got)
		}
	}
	if impl.Valence(graphOf(1), 0) != 0 || impl.Valence(parallel(12), 1) != 12 {
		t.Error("Valence is wrong for no or twelve edges")
	}
}

// TestCountsAreExact compares Multiplicity and Valence with their definitions.
func TestCountsAreExact(t *testing.T) {
	for _, g := range goodGraphs() {
		sum := 0
		for a := -1; a <= g.N; a++ {
			at := 0
			for b := -1; b <= g.N; b++ {
				want := 0
				for _, e := range g.Edges {
					if e == (impl.Edge{A: a, B: b}) || e == (impl.Edge{A: b, B: a}) {
						want++
					}
				}
				if got := impl.Multiplicity(g, a, b); got != want {
					t.Fatalf("Multiplicity(%v, %d, %d) = %d, want %d", g, a, b, got, want)
				}
				at += want
			}
			if got := impl.Valence(g, a); got != at {
				t.Fatalf("Valence(%v, %d) = %d, want %d", g, a, got, at)
			}
			sum += at
		}
		if sum != 2*len(g.Edges) {
			t.Fatalf("the valences of %v have the sum %d", g, sum)
		}
	}
}

func TestGenusOf(t *testing.T) {
	cases := []struct {
		g    impl.Graph
		want int
	}{
		{graphOf(1), 0}, {parallel(1), 0}, {parallel(2), 1}, {parallel(12), 11}, {completeGraph(3), 1},
		{completeGraph(4), 3}, {completeGraph(5), 6}, {graphOf(6, 0, 5, 1, 5, 2, 5, 3, 5, 4, 5), 0},
		{graphOf(6, 0, 1, 0, 5, 1, 2, 2, 3, 3, 4, 4, 5), 1},
	}
	for _, c := range cases {
		if got := impl.GenusOf(c.g); got != c.want {
			t.Errorf("GenusOf(%v) = %d, want %d", c.g, got, c.want)
		}
	}
	for _, g := range goodGraphs() {
		if got := impl.GenusOf(g); got != len(g.Edges)-g.N+1 {
			t.Errorf("GenusOf(%v) = %d", g, got)
		}
	}
	for name, g := range badGraphs() {
		if got := impl.GenusOf(g); got != -1 {
			t.Errorf("%s: GenusOf(%v) = %d", name, g, got)
		}
	}
}

func TestDistancesFrom(t *testing.T) {
	path := graphOf(6, 0, 1, 1, 2, 2, 3, 3, 4, 4, 5)
	crossed := graphOf(6, 0, 5, 1, 4, 1, 5, 2, 3, 2, 4)
	cases := []struct {
		g    impl.Graph
		v    int
		want []int
	}{
		{graphOf(1), 0, []int{0}},
		{path, 0, []int{0, 1, 2, 3, 4, 5}},
		{path, 5, []int{5, 4, 3, 2, 1, 0}},
		{path, 2, []int{2, 1, 0, 1, 2, 3}},
		{crossed, 0, []int{0, 2, 4, 5, 3, 1}},
		{crossed, 3, []int{5, 3, 1, 0, 2, 4}},
		{parallel(12), 1, []int{1, 0}},
		{completeGraph(5), 3, []int{1, 1, 1, 0, 1}},
		{graphOf(6, 0, 1, 0, 5, 1, 2, 2, 3, 3, 4, 4, 5), 1, []int{1, 0, 1, 2, 3, 2}},
	}
	for _, c := range cases {
		if got := impl.DistancesFrom(c.g, c.v); !slices.Equal(got, c.want) {
			t.Errorf("DistancesFrom(%v, %d) = %v, want %v", c.g, c.v, got, c.want)
		}
	}
	for _, g := range goodGraphs() {
		for v, want := range pathLengths(g) {
			if got := impl.DistancesFrom(g, v); !slices.Equal(got, want) {
				t.Fatalf("DistancesFrom(%v, %d) = %v, want %v", g, v, got, want)
			}
		}
	}
}

func TestDistancesFromRejects(t *testing.T) {
	for _, g := range []impl.Graph{graphOf(1), parallel(2), completeGraph(4), graphOf(6, 0, 5, 1, 5, 2, 5, 3, 5, 4, 5)} {
		for _, v := range append(oddInts(), g.N, g.N+1) {
			if got := impl.DistancesFrom(g, v); len(got) != 0 {
				t.Errorf("DistancesFrom(%v, %d) = %v", g, v, got)
			}
		}
	}
	for name, g := range badGraphs() {
		for _, v := range []int{0, 1, -1, math.MinInt, math.MaxInt} {
			if got := impl.DistancesFrom(g, v); len(got) != 0 {
				t.Errorf("%s: DistancesFrom(%v, %d) = %v", name, g, v, got)
			}
		}
	}
}

func TestAddEdge(t *testing.T) {
	cases := []struct {
		g    impl.Graph
		a, b int
		want impl.Graph
	}{
		{graphOf(3, 0, 1, 1, 2), 0, 2, graphOf(3, 0, 1, 0, 2, 1, 2)},
		{graphOf(3, 0, 1, 1, 2), 2, 0, graphOf(3, 0, 1, 0, 2, 1, 2)},
		{graphOf(3, 0, 1, 1, 2), 1, 0, graphOf(3, 0, 1, 0, 1, 1, 2)},
		{graphOf(3, 0, 1, 1, 2), 2, 1, graphOf(3, 0, 1, 1, 2, 1, 2)},
		{graphOf(3, 0, 2, 1, 2), 0, 1, graphOf(3, 0, 1, 0, 2, 1, 2)},
		{graphOf(4, 0, 3, 1, 3, 2, 3), 2, 1, graphOf(4, 0, 3, 1, 2, 1, 3, 2, 3)},
		{parallel(11), 1, 0, parallel(12)},
	}
	for _, c := range cases {
		if got, ok := impl.AddEdge(c.g, c.a, c.b); !ok || !impl.SameGraph(got, c.want) {
			t.Errorf("AddEdge(%v, %d, %d) = %v, %v, want %v", c.g, c.a, c.b, got, ok, c.want)
		}
	}
	for _, g := range goodGraphs() {
		for a := -1; a <= g.N; a++ {
			for b := -1; b <= g.N; b++ {
				checkAddEdge(t, g, a, b)
			}
		}
	}
}

// checkAddEdge compares AddEdge on a valid graph with its definition.
func checkAddEdge(t *testing.T, g impl.Graph, a int, b int) {
	got, ok := impl.AddEdge(g, a, b)
	if a == b || min(a, b) < 0 || max(a, b) >= g.N || len(g.Edges) == 12 {
		if ok || !zeroGraph(got) {
			t.Fatalf("AddEdge(%v, %d, %d) = %v, %v", g, a, b, got, ok)
		}
		return
	}
	longer := append(slices.Clone(g.Edges), impl.Edge{A: min(a, b), B: max(a, b)})
	if !ok || got.N != g.N || !slices.Equal(got.Edges, sortedEdges(longer)) {
		t.Fatalf("AddEdge(%v, %d, %d) = %v, %v", g, a, b, got, ok)
	}
}

func TestAddEdgeRejects(t *testing.T) {
	check := func(name string, g impl.Graph, a int, b int) {
		if got, ok := impl.AddEdge(g, a, b); ok || !zeroGraph(got) {
			t.Errorf("%s: AddEdge(%v, %d, %d) = %v, %v", name, g, a, b, got, ok)
		}
	}
	for _, x := range oddInts() {
		check("no vertex", completeGraph(4), x, 0)
		check("no vertex", completeGraph(4), 3, x)
		check("no vertex", completeGraph(4), x, x)
		check("no vertex", completeGraph(4), x, math.MinInt)
	}
	check("one vertex", graphOf(1), 0, 0)
	check("one vertex", graphOf(1), 0, 1)
	check("a loop", graphOf(2, 0, 1), 1, 1)
	check("twelve edges", parallel(12), 0, 1)
	for name, g := range badGraphs() {
		for a := range 3 {
			for b := range 3 {
				check(name, g, a, b)
			}
		}
	}
	check("not connected before", graphOf(3, 0, 1), 1, 2)
	check("not connected before", graphOf(2), 0, 1)
}

func TestDropEdge(t *testing.T) {
	cases := []struct {
		g     impl.Graph
		index int
		want  impl.Graph
	}{
		{completeGraph(3), 0, graphOf(3, 0, 2, 1, 2)},
		{completeGraph(3), 1, graphOf(3, 0, 1, 1, 2)},
		{completeGraph(3), 2, graphOf(3, 0, 1, 0, 2)},
		{graphOf(3, 0, 1, 0, 1, 1, 2), 1, graphOf(3, 0, 1, 1, 2)},
		{parallel(12), 11, parallel(11)},
		{parallel(2), 0, parallel(1)},
	}
	for _, c := range cases {
		if got, ok := impl.DropEdge(c.g, c.index); !ok || !impl.SameGraph(got, c.want) {
			t.Errorf("DropEdge(%v, %d) = %v, %v, want %v", c.g, c.index, got, ok, c.want)
		}
	}
	for _, g := range goodGraphs() {
		for index := -1; index <= len(g.Edges); index++ {
			checkDropEdge(t, g, index)
		}
	}
}

// checkDropEdge compares DropEdge on a valid graph with its definition.
func checkDropEdge(t *testing.T, g impl.Graph, index int) {
	want := impl.Graph{N: g.N}
	for i, e := range g.Edges {
		if i != index {
			want.Edges = append(want.Edges, e)
		}
	}
	exists := 0 <= index && index < len(g.Edges)
	got, ok := impl.DropEdge(g, index)
	if !exists || !graphOkSlowly(want) {
		want = impl.Graph{}
	}
	if ok == zeroGraph(want) || got.N != want.N || !slices.Equal(got.Edges, want.Edges) {
		t.Fatalf("DropEdge(%v, %d) = %v, %v, want %v", g, index, got, ok, want)
	}
}

func TestDropEdgeRejects(t *testing.T) {
	check := func(name string, g impl.Graph, index int) {
		if got, ok := impl.DropEdge(g, index); ok || !zeroGraph(got) {
			t.Errorf("%s: DropEdge(%v, %d) = %v, %v", name, g, index, got, ok)
		}
	}
	for _, index := range []int{-1, 3, 4, math.MinInt, math.MaxInt} {
		check("no edge", completeGraph(3), index)
		check("no edges", graphOf(1), index)
	}
	check("no edges", graphOf(1), 0)
	check("a bridge", parallel(1), 0)
	check("a bridge", graphOf(4, 0, 1, 0, 2, 1, 2, 2, 3), 3)
	check("a bridge in the middle", graphOf(6, 0, 1, 0, 2, 1, 2, 2, 3, 3, 4, 3, 5, 4, 5), 3)
	for name, g := range badGraphs() {
		for index := -1; index <= len(g.Edges); index++ {
			check(name, g, index)
		}
	}
	check("valid without the edge", parallel(13), 12)
	check("valid without the edge", graphOf(3, 0, 1, 1, 2, 0, 1), 2)
	check("valid without the edge", graphOf(2, 0, 1, 1, 1), 1)
}

func TestSameGraph(t *testing.T) {
	distinct := []impl.Graph{
		{}, graphOf(-1), graphOf(1), graphOf(2), graphOf(math.MinInt), graphOf(math.MaxInt), graphOf(0, 0, 1),
		graphOf(2, 0, 1), graphOf(3, 0, 1), graphOf(2, 1, 0), graphOf(2, 0, 1, 0, 1),
		graphOf(3, 0, 1, 0, 2), graphOf(3, 0, 2, 0, 1), graphOf(3, 0, 1, 1, 2), graphOf(3, 0, 1, 0, 2, 1, 2),
		graphOf(4, 0, 1, 0, 2, 1, 2), graphOf(2, math.MinInt, math.MaxInt), graphOf(2, math.MaxInt, math.MinInt),
		parallel(12), parallel(13), parallel(14), completeGraph(6),
	}
	for i, a := range distinct {
		for j, b := range distinct {
			copied := impl.Graph{N: b.N, Edges: append([]impl.Edge{}, b.Edges...)}
			if impl.SameGraph(a, b) != (i == j) || impl.SameGraph(a, copied) != (i == j) {
				t.Errorf("SameGraph(%v, %v) is wrong", a, b)
			}
		}
	}
	if !impl.SameGraph(graphOf(1), impl.Graph{N: 1, Edges: []impl.Edge{}}) {
		t.Error("no edges and an empty list of edges differ")
	}
}

// TestEdgesRecovered checks that dropping an added edge recovers the graph, and adding a dropped one.
func TestEdgesRecovered(t *testing.T) {
	for _, g := range goodGraphs() {
		for _, e := range completeGraph(g.N).Edges {
			more, ok := impl.AddEdge(g, e.B, e.A)
			if !ok {
				continue
			}
			less, fine := impl.DropEdge(more, slices.Index(more.Edges, e))
			if !fine || !impl.SameGraph(less, g) || impl.GenusOf(more) != impl.GenusOf(g)+1 {
				t.Fatalf("the edge %v added to %v and dropped gives %v", e, g, less)
			}
		}
		for i, e := range g.Edges {
			less, ok := impl.DropEdge(g, i)
			if !ok {
				continue
			}
			if more, fine := impl.AddEdge(less, e.A, e.B); !fine || !impl.SameGraph(more, g) {
				t.Fatalf("the edge %v dropped from %v and added gives %v", e, g, more)
			}
		}
	}
}

// spacious returns a copy of a graph with spare capacity behind its edges.
func spacious(g impl.Graph) impl.Graph {
	edges := append(slices.Clone(g.Edges), slices.Repeat([]impl.Edge{{A: 77, B: 88}}, 5)...)
	return impl.Graph{N: g.N, Edges: edges[:len(g.Edges)]}
}

// spoilEdges overwrites edges and the spare capacity behind them.
func spoilEdges(edges []impl.Edge) {
	for i := range edges[:cap(edges)] {
		edges[:cap(edges)][i] = impl.Edge{A: -99, B: -99}
	}
}

// callAll calls every function of the chapter.
func callAll(g impl.Graph, h impl.Graph) {
	impl.EdgesOk(g)
	impl.GraphOk(g)
	impl.GenusOf(g)
	impl.SameGraph(g, h)
	for a := -1; a <= 4; a++ {
		impl.Valence(g, a)
		impl.DistancesFrom(g, a)
		impl.DropEdge(g, a)
		for b := -1; b <= 4; b++ {
			impl.Multiplicity(g, a, b)
			impl.AddEdge(g, a, b)
		}
	}
}

func TestGraphArgumentsAreKept(t *testing.T) {
	check := func(g impl.Graph) {
		one, two := spacious(g), spacious(g)
		before := slices.Clone(one.Edges[:cap(one.Edges)])
		callAll(one, two)
		if one.N != g.N || !slices.Equal(one.Edges[:cap(one.Edges)], before) {
			t.Fatalf("the graph %v or the memory behind it has changed", g)
		}
		if !slices.Equal(two.Edges, g.Edges) || !slices.Equal(two.Edges[:cap(one.Edges)], before) {
			t.Fatalf("the second graph %v or the memory behind it has changed", g)
		}
	}
	for _, g := range goodGraphs() {
		check(g)
	}
	for _, g := range badGraphs() {
		check(g)
	}
}

// TestGraphResultsAreNew checks that results share no memory with arguments or with each other.
func TestGraphResultsAreNew(t *testing.T) {
	for _, g := range []impl.Graph{parallel(2), completeGraph(3), completeGraph(4), graphOf(3, 0, 1, 0, 1, 1, 2)} {
		for a := range g.N {
			checkDistancesAreNew(t, g, a)
			for b := range g.N {
				checkGraphIsNew(t, g, func(g impl.Graph) (impl.Graph, bool) { return impl.AddEdge(g, a, b) })
			}
		}
		for i := range g.Edges {
			checkGraphIsNew(t, g, func(g impl.Graph) (impl.Graph, bool) { return impl.DropEdge(g, i) })
		}
	}
}

// checkGraphIsNew checks that spoiling a result of change spoils neither its argument nor other results.
func checkGraphIsNew(t *testing.T, g impl.Graph, change func(impl.Graph) (impl.Graph, bool)) {
	argument := spacious(g)
	behind := argument.Edges[:cap(argument.Edges)]
	before := slices.Clone(behind)
	first, ok := change(argument)
	second, again := change(argument)
	want := slices.Clone(first.Edges)
	if ok != again || !impl.SameGraph(first, second) {
		t.Fatalf("a second call with %v answers %v, %v", g, second, again)
	}
	spoilEdges(first.Edges)
	if !slices.Equal(behind, before) || !slices.Equal(second.Edges, want) {
		t.Fatalf("a result for %v shares memory", g)
	}
	if third, _ := change(argument); !slices.Equal(third.Edges, want) {
		t.Fatalf("a later result for %v has changed", g)
	}
	spoilEdges(argument.Edges)
	if !slices.Equal(second.Edges, want) {
		t.Fatalf("a result for %v shares memory with its argument", g)
	}
}

// checkDistancesAreNew checks that spoiling distances spoils no other ones.
func checkDistancesAreNew(t *testing.T, g impl.Graph, v int) {
	first, second := impl.DistancesFrom(g, v), impl.DistancesFrom(g, v)
	want := slices.Clone(first)
	for i := range first[:cap(first)] {
		first[:cap(first)][i] = -99
	}
	if !slices.Equal(second, want) || !slices.Equal(impl.DistancesFrom(g, v), want) {
		t.Fatalf("the distances from %d in %v share memory", v, g)
	}
}

// TestGraphAnswersAgain checks that a second call with equal arguments answers the same, often enough for the maps inside to be ranged over in other orders.
func TestGraphAnswersAgain(t *testing.T) {
	graphs := []impl.Graph{completeGraph(5), graphOf(6, 0, 1, 0, 5, 1, 2, 1, 3, 2, 3, 3, 4, 4, 5), graphOf(6, 0, 5, 1, 4, 1, 5, 2, 3, 2, 4)}
	for _, g := range graphs {
		lengths := pathLengths(g)
		for range 200 {
			for v := range g.N {
				copied := spacious(g)
				if !slices.Equal(impl.DistancesFrom(copied, v), lengths[v]) || impl.Valence(copied, v) != impl.Valence(g, v) {
					t.Fatalf("the answers for %v differ", g)
				}
			}
			if !impl.GraphOk(spacious(g)) {
				t.Fatalf("%v is not valid any more", g)
			}
		}
	}
}
