package tests

import (
	"fmt"
	"math"
	"slices"
	"testing"

	"loop.example/g00841/impl"
)

// withAt returns a copy of a list with x at an index.
func withAt(l []int, k int, x int) []int {
	changed := slices.Clone(l)
	changed[k] = x
	return changed
}

// sortedLists returns lists in lexicographic order.
func sortedLists(l [][]int) [][]int {
	return slices.SortedFunc(slices.Values(l), slices.Compare[[]int])
}

// knownParkings keeps what parkingsSlowly has found, because many tests ask for it and the definition takes long.
var knownParkings = map[string][][]int{}

// parkingsSlowly returns all parking functions in lexicographic order.
func parkingsSlowly(g impl.Graph, q int) [][]int {
	text := fmt.Sprint(g, q)
	if knownParkings[text] == nil {
		all := reducedDivisors(g, q)
		for _, f := range all {
			f[q] = -1
		}
		knownParkings[text] = sortedLists(all)
	}
	return copyMatrix(knownParkings[text])
}

// burnEdgesSlowly is TreeOfParking of a parking function by its definition.
func burnEdgesSlowly(g impl.Graph, f []int, q int) []int {
	burns, taken, lost := map[int]bool{q: true}, map[int]bool{}, map[int]int{}
	var tree []int
	for range g.Edges {
		for i, e := range g.Edges {
			v := e.A
			if burns[e.A] {
				v = e.B
			}
			if taken[i] || burns[e.A] == burns[e.B] {
				continue
			}
			taken[i] = true
			if lost[v] < f[v] {
				lost[v]++
			} else {
				burns[v] = true
				tree = append(tree, i)
			}
			break
		}
	}
	slices.Sort(tree)
	return tree
}

// isFailure reports whether a result is the one of a function that fails.
func isFailure(l []int, ok bool) bool {
	return !ok && len(l) == 0
}

// oddIndices returns ints that are no index of an edge of a valid graph, the extreme ones among them, and those next to its edges.
func oddIndices(g impl.Graph) []int {
	return append(beyond(12), -1, -2, len(g.Edges), len(g.Edges)+1)
}

// eachBadTree calls check with lists that are no spanning trees, of every kind.
func eachBadTree(check func(name string, g impl.Graph, tree []int)) {
	for _, g := range append(someGraphs(), doubledPath(), completeGraph(3), parallel(2)) {
		trees := treesSlowly(g)
		for _, set := range subsetsOf(len(g.Edges)) {
			if !slices.ContainsFunc(trees, func(tree []int) bool { return slices.Equal(tree, set) }) {
				check("not a tree", g, set)
			}
		}
		for _, tree := range [][]int{trees[0], trees[len(trees)/2], trees[len(trees)-1]} {
			for _, order := range ordersOf(tree) {
				if !slices.Equal(order, tree) {
					check("not ascending", g, order)
				}
			}
			for _, x := range append(oddIndices(g), tree...) {
				check("one more", g, append(slices.Clone(tree), x))
				check("one more", g, append([]int{x}, tree...))
				for k := range tree {
					if tree[k] != x {
						check("another index", g, withAt(tree, k, x))
					}
				}
			}
		}
		check("very long", g, make([]int, 1000))
		check("very long", g, orderOf(1000))
	}
	for name, g := range badGraphs() {
		for _, n := range lengthsFor(g) {
			check(name, g, orderOf(n))
			check(name, g, make([]int, n))
			check(name, g, slices.Repeat([]int{math.MaxInt}, n))
		}
	}
}

func TestIsTree(t *testing.T) {
	fat, path, full := fatTriangle(), graphOf(3, 0, 1, 1, 2), completeGraph(4)
	for _, c := range []struct {
		g    impl.Graph
		tree []int
		want bool
	}{
		{fat, []int{0, 2}, true}, {fat, []int{0, 3}, true}, {fat, []int{1, 2}, true}, {fat, []int{1, 3}, true}, {fat, []int{2, 3}, true}, {fat, []int{0, 1}, false},
		{fat, []int{2, 0}, false}, {fat, []int{3, 2}, false}, {fat, []int{2, 2}, false}, {fat, []int{0, 0}, false}, {fat, []int{2}, false}, {fat, nil, false}, {fat, []int{0, 2, 3}, false}, {fat, []int{0, 1, 2}, false}, {fat, []int{0, 2, 2}, false},
		{fat, []int{2, 4}, false}, {fat, []int{-1, 2}, false}, {fat, []int{2, math.MaxInt}, false}, {fat, []int{math.MinInt, 2}, false}, {fat, []int{math.MinInt, math.MaxInt}, false},
		{graphOf(1), nil, true}, {graphOf(1), []int{}, true}, {graphOf(1), []int{0}, false}, {graphOf(1), []int{-1}, false}, {parallel(1), []int{0}, true}, {parallel(1), []int{1}, false}, {parallel(1), nil, false},
		{parallel(12), []int{0}, true}, {parallel(12), []int{11}, true}, {parallel(12), []int{12}, false}, {parallel(12), []int{-1}, false}, {parallel(12), []int{0, 11}, false},
		{path, []int{0, 1}, true}, {path, []int{1, 0}, false}, {path, []int{0}, false}, {path, []int{1, 2}, false},
		{full, []int{0, 1, 2}, true}, {full, []int{0, 1, 3}, false}, {full, []int{0, 2, 4}, false}, {full, []int{0, 3, 5}, true}, {full, []int{3, 4, 5}, false}, {full, []int{2, 4, 5}, true}, {full, []int{0, 5}, false}, {full, []int{0, 5, 5}, false}, {full, []int{0, 1, 2, 3}, false},
		{graphOf(0), nil, false}, {graphOf(2), nil, false}, {graphOf(2), []int{0}, false}, {graphOf(3, 0, 1), []int{0, 1}, false}, {graphOf(3, 0, 1), []int{0}, false}, {graphOf(3, 1, 2, 0, 1), []int{0, 1}, false}, {parallel(13), []int{0}, false}, {graphOf(2, 1, 0), []int{0}, false},
	} {
		if got := impl.IsTree(c.g, c.tree); got != c.want {
			t.Errorf("IsTree(%v, %v) = %v", c.g, c.tree, got)
		}
	}
}

// TestTreesAreExact compares TreesOf and IsTree with the sets of N - 1 edges that join all vertices.
func TestTreesAreExact(t *testing.T) {
	for _, g := range append(goodGraphs(), recurGraphs()...) {
		want := sortedLists(treesSlowly(g))
		got, ok := impl.TreesOf(g)
		if !ok || !sameMatrix(got, want) || len(got) != impl.CountTrees(g) {
			t.Fatalf("TreesOf(%v) = %v, %v, want %v", g, got, ok, want)
		}
		for _, tree := range want {
			if !impl.IsTree(g, tree) {
				t.Fatalf("IsTree(%v, %v) = false", g, tree)
			}
		}
	}
}

func TestTreesOf(t *testing.T) {
	for _, c := range []struct {
		g    impl.Graph
		want [][]int
	}{
		{fatTriangle(), [][]int{{0, 2}, {0, 3}, {1, 2}, {1, 3}, {2, 3}}}, {graphOf(1), [][]int{{}}}, {parallel(1), [][]int{{0}}}, {parallel(3), [][]int{{0}, {1}, {2}}},
		{parallel(12), [][]int{{0}, {1}, {2}, {3}, {4}, {5}, {6}, {7}, {8}, {9}, {10}, {11}}}, {graphOf(3, 0, 1, 1, 2), [][]int{{0, 1}}}, {doubledPath(), [][]int{{0, 2}, {0, 3}, {1, 2}, {1, 3}}}, {graphOf(6, 0, 5, 1, 4, 1, 5, 2, 3, 2, 4), [][]int{{0, 1, 2, 3, 4}}},
		{completeGraph(3), [][]int{{0, 1}, {0, 2}, {1, 2}}}, {graphOf(4, 0, 1, 0, 3, 1, 2, 2, 3), [][]int{{0, 1, 2}, {0, 1, 3}, {0, 2, 3}, {1, 2, 3}}},
		{completeGraph(4), [][]int{
			{0, 1, 2}, {0, 1, 4}, {0, 1, 5}, {0, 2, 3}, {0, 2, 5}, {0, 3, 4}, {0, 3, 5}, {0, 4, 5},
			{1, 2, 3}, {1, 2, 4}, {1, 3, 4}, {1, 3, 5}, {1, 4, 5}, {2, 3, 4}, {2, 3, 5}, {2, 4, 5},
		}},
	} {
		if got, ok := impl.TreesOf(c.g); !ok || !sameMatrix(got, c.want) {
			t.Errorf("TreesOf(%v) = %v, %v, want %v", c.g, got, ok, c.want)
		}
	}
}

// TestMostTrees lists the trees and the parking functions of the graph that has the most of them.
func TestMostTrees(t *testing.T) {
	g := octahedron()
	if trees, ok := impl.TreesOf(g); !ok || len(trees) != 384 || !slices.Equal(trees[0], []int{0, 1, 2, 3, 6}) {
		t.Errorf("TreesOf lists %d trees, %v", len(trees), ok)
	}
	for q := range g.N {
		if all, ok := impl.ParkingsOf(g, q); !ok || len(all) != 384 {
			t.Errorf("ParkingsOf lists %d parking functions, %v", len(all), ok)
		}
	}
}

func TestIsParking(t *testing.T) {
	fat, path, full := fatTriangle(), graphOf(3, 0, 1, 1, 2), completeGraph(4)
	for _, c := range []struct {
		g    impl.Graph
		f    []int
		q    int
		want bool
	}{
		{fat, []int{-1, 0, 0}, 0, true}, {fat, []int{-1, 2, 0}, 0, true}, {fat, []int{-1, 1, 1}, 0, true}, {fat, []int{-1, 1, 0}, 0, true}, {fat, []int{-1, 0, 1}, 0, true}, {fat, []int{-1, 2, 1}, 0, false}, {fat, []int{-1, 3, 0}, 0, false}, {fat, []int{-1, 0, 2}, 0, false},
		{fat, []int{0, 2, 0}, 0, false}, {fat, []int{-2, 2, 0}, 0, false}, {fat, []int{1, 2, 0}, 0, false}, {fat, []int{-1, -1, 0}, 0, false}, {fat, []int{-1, 0, -1}, 0, false}, {fat, []int{-1, 0, 0}, 1, false}, {fat, []int{0, -1, 0}, 1, true},
		{fat, []int{2, 0, -1}, 2, true}, {fat, []int{0, 2, -1}, 2, true}, {fat, []int{1, 1, -1}, 2, false}, {fat, []int{1, 0, -1}, 2, true}, {fat, []int{-1, 0, 0}, 3, false}, {fat, []int{-1, 0, 0}, -1, false}, {fat, []int{-1, 0, 0}, math.MaxInt, false}, {fat, []int{-1, 0, 0}, math.MinInt, false},
		{fat, []int{-1, 0}, 0, false}, {fat, []int{-1, 0, 0, 0}, 0, false}, {fat, nil, 0, false}, {fat, []int{-1, 61, 0}, 0, false}, {fat, []int{math.MinInt, 0, 0}, 0, false}, {fat, []int{math.MaxInt, 0, 0}, 0, false},
		{graphOf(1), []int{-1}, 0, true}, {graphOf(1), []int{0}, 0, false}, {graphOf(1), []int{-2}, 0, false}, {graphOf(1), []int{-1}, 1, false}, {graphOf(1), nil, 0, false}, {parallel(1), []int{-1, 0}, 0, true}, {parallel(1), []int{-1, 1}, 0, false}, {parallel(1), []int{-1, -1}, 0, false},
		{parallel(12), []int{-1, 11}, 0, true}, {parallel(12), []int{-1, 12}, 0, false}, {parallel(12), []int{11, -1}, 1, true}, {parallel(12), []int{11, -1}, 0, false}, {path, []int{-1, 0, 0}, 0, true}, {path, []int{-1, 1, 0}, 0, false}, {path, []int{-1, 0, 1}, 0, false},
		{full, []int{-1, 0, 1, 2}, 0, true}, {full, []int{-1, 2, 1, 0}, 0, true}, {full, []int{-1, 1, 1, 1}, 0, false}, {full, []int{-1, 2, 2, 0}, 0, false}, {full, []int{1, 0, 1, -1}, 3, true},
		{graphOf(0), nil, 0, false}, {graphOf(3, 0, 1), []int{-1, 0, 0}, 0, false}, {graphOf(3, 1, 2, 0, 1), []int{-1, 0, 0}, 0, false},
	} {
		if got := impl.IsParking(c.g, c.f, c.q); got != c.want {
			t.Errorf("IsParking(%v, %v, %d) = %v", c.g, c.f, c.q, got)
		}
	}
}

// TestIsParkingIsExact compares IsParking with the definition of a reduced divisor.
func TestIsParkingIsExact(t *testing.T) {
	answers := map[bool]int{}
	check := func(g impl.Graph, f []int, q int) {
		want := reducedSlowly(g, f, q) && f[q] == -1
		answers[want]++
		if got := impl.IsParking(g, f, q); got != want {
			t.Fatalf("IsParking(%v, %v, %d) = %v", g, f, q, got)
		}
	}
	eachReduction(check)
	for _, g := range recurGraphs() {
		for q := range g.N {
			for k, p := range stablePilesSlowly(g, q) {
				if g.N > 4 && k%6 != q {
					continue
				}
				v := k / 6 % g.N
				check(g, withAt(p, q, -1), q)
				check(g, withAt(p, q, v-2), q)
				check(g, withAt(withAt(p, q, -1), v, p[v]+1), q)
			}
		}
	}
	if answers[true] < 1000 || answers[false] < 1000 {
		t.Errorf("the answers are %v", answers)
	}
}

// TestParkingNeedsItsSink checks that of the reduced divisors, only those with -1 chip at q are parking functions.
func TestParkingNeedsItsSink(t *testing.T) {
	for _, g := range recurGraphs() {
		for q := range g.N {
			all := parkingsSlowly(g, q)
			for _, f := range [][]int{all[0], all[len(all)/2], all[len(all)-1]} {
				for _, x := range append(beyond(60), -60, -3, -2, 0, 1, 2, 60) {
					checkNoParking(t, "another number at q", g, withAt(f, q, x), q)
				}
			}
		}
	}
}

// walkCase is a parking function with its tree.
type walkCase struct {
	g    impl.Graph
	f    []int
	q    int
	tree []int
}

func walkCases() []walkCase {
	fat, path, full, crossed := fatTriangle(), graphOf(3, 0, 1, 1, 2), completeGraph(4), graphOf(4, 0, 3, 1, 2, 1, 3, 2, 3)
	return []walkCase{
		{fat, []int{-1, 0, 0}, 0, []int{0, 2}}, {fat, []int{-1, 0, 1}, 0, []int{0, 3}}, {fat, []int{-1, 1, 0}, 0, []int{1, 2}}, {fat, []int{-1, 1, 1}, 0, []int{1, 3}}, {fat, []int{-1, 2, 0}, 0, []int{2, 3}},
		{fat, []int{0, 0, -1}, 2, []int{0, 2}}, {fat, []int{1, 0, -1}, 2, []int{0, 3}}, {fat, []int{0, 1, -1}, 2, []int{1, 2}}, {fat, []int{2, 0, -1}, 2, []int{1, 3}}, {fat, []int{0, 2, -1}, 2, []int{2, 3}},
		{fat, []int{0, -1, 0}, 1, []int{0, 2}}, {fat, []int{0, -1, 1}, 1, []int{0, 3}}, {fat, []int{1, -1, 0}, 1, []int{1, 2}}, {fat, []int{1, -1, 1}, 1, []int{1, 3}}, {fat, []int{2, -1, 0}, 1, []int{2, 3}},
		{graphOf(1), []int{-1}, 0, []int{}}, {parallel(1), []int{-1, 0}, 0, []int{0}}, {parallel(1), []int{0, -1}, 1, []int{0}}, {parallel(12), []int{-1, 0}, 0, []int{0}}, {parallel(12), []int{-1, 7}, 0, []int{7}}, {parallel(12), []int{11, -1}, 1, []int{11}},
		{path, []int{-1, 0, 0}, 0, []int{0, 1}}, {path, []int{0, 0, -1}, 2, []int{0, 1}}, {path, []int{0, -1, 0}, 1, []int{0, 1}},
		{full, []int{-1, 0, 0, 0}, 0, []int{0, 1, 2}}, {full, []int{-1, 0, 1, 2}, 0, []int{0, 3, 5}}, {full, []int{-1, 2, 1, 0}, 0, []int{2, 3, 5}}, {full, []int{-1, 1, 1, 0}, 0, []int{2, 3, 4}}, {full, []int{-1, 0, 2, 0}, 0, []int{0, 2, 5}}, {full, []int{-1, 0, 0, 2}, 0, []int{0, 1, 5}}, {full, []int{-1, 2, 0, 1}, 0, []int{1, 4, 5}},
		{full, []int{0, 0, 0, -1}, 3, []int{0, 1, 2}}, {full, []int{0, 1, 0, -1}, 3, []int{1, 2, 3}}, {full, []int{1, 0, 0, -1}, 3, []int{0, 1, 4}},
		{crossed, []int{-1, 0, 0, 0}, 0, []int{0, 1, 2}}, {crossed, []int{-1, 1, 0, 0}, 0, []int{0, 1, 3}}, {crossed, []int{-1, 0, 1, 0}, 0, []int{0, 2, 3}},
	}
}

// TestTreeOfParking tries both ways of the walk. On the complete graph with the sink 3, a fire over an edge leads back to edges with lesser indices.
func TestTreeOfParking(t *testing.T) {
	for _, c := range walkCases() {
		tree, ok := impl.TreeOfParking(c.g, c.f, c.q)
		if !ok || !slices.Equal(tree, c.tree) {
			t.Errorf("TreeOfParking(%v, %v, %d) = %v, %v, want %v", c.g, c.f, c.q, tree, ok, c.tree)
		}
		if f, ok := impl.ParkingOfTree(c.g, c.tree, c.q); !ok || !slices.Equal(f, c.f) {
			t.Errorf("ParkingOfTree(%v, %v, %d) = %v, %v, want %v", c.g, c.tree, c.q, f, ok, c.f)
		}
	}
}

// TestWalkIsExact compares TreeOfParking with its definition for all parking functions, and checks that ParkingOfTree leads back and that every spanning tree is reached once.
func TestWalkIsExact(t *testing.T) {
	count := 0
	for _, g := range append(recurGraphs(), sparseGraphs(20)...) {
		for q := range g.N {
			var trees [][]int
			for _, f := range parkingsSlowly(g, q) {
				count++
				want := burnEdgesSlowly(g, f, q)
				tree, ok := impl.TreeOfParking(g, f, q)
				if !ok || !slices.Equal(tree, want) {
					t.Fatalf("TreeOfParking(%v, %v, %d) = %v, %v, want %v", g, f, q, tree, ok, want)
				}
				if back, ok := impl.ParkingOfTree(g, want, q); !ok || !slices.Equal(back, f) {
					t.Fatalf("ParkingOfTree(%v, %v, %d) = %v, %v, want %v", g, want, q, back, ok, f)
				}
				trees = append(trees, want)
			}
			if all := sortedLists(treesSlowly(g)); !sameMatrix(sortedLists(trees), all) {
				t.Fatalf("the parking functions on %v for %d have the trees %v, want %v", g, q, trees, all)
			}
		}
	}
	if count < 10000 {
		t.Errorf("only %d parking functions are tried", count)
	}
}

func TestParkingsOf(t *testing.T) {
	fat := fatTriangle()
	for _, c := range []struct {
		g    impl.Graph
		q    int
		want [][]int
	}{
		{fat, 0, [][]int{{-1, 0, 0}, {-1, 0, 1}, {-1, 1, 0}, {-1, 1, 1}, {-1, 2, 0}}}, {fat, 1, [][]int{{0, -1, 0}, {0, -1, 1}, {1, -1, 0}, {1, -1, 1}, {2, -1, 0}}}, {fat, 2, [][]int{{0, 0, -1}, {0, 1, -1}, {0, 2, -1}, {1, 0, -1}, {2, 0, -1}}},
		{graphOf(1), 0, [][]int{{-1}}}, {parallel(1), 0, [][]int{{-1, 0}}}, {parallel(3), 0, [][]int{{-1, 0}, {-1, 1}, {-1, 2}}}, {parallel(3), 1, [][]int{{0, -1}, {1, -1}, {2, -1}}},
		{graphOf(3, 0, 1, 1, 2), 1, [][]int{{0, -1, 0}}}, {doubledPath(), 0, [][]int{{-1, 0, 0}, {-1, 0, 1}, {-1, 1, 0}, {-1, 1, 1}}}, {completeGraph(3), 1, [][]int{{0, -1, 0}, {0, -1, 1}, {1, -1, 0}}},
		{completeGraph(4), 0, [][]int{
			{-1, 0, 0, 0}, {-1, 0, 0, 1}, {-1, 0, 0, 2}, {-1, 0, 1, 0}, {-1, 0, 1, 1}, {-1, 0, 1, 2}, {-1, 0, 2, 0}, {-1, 0, 2, 1},
			{-1, 1, 0, 0}, {-1, 1, 0, 1}, {-1, 1, 0, 2}, {-1, 1, 1, 0}, {-1, 1, 2, 0}, {-1, 2, 0, 0}, {-1, 2, 0, 1}, {-1, 2, 1, 0},
		}},
	} {
		if got, ok := impl.ParkingsOf(c.g, c.q); !ok || !sameMatrix(got, c.want) {
			t.Errorf("ParkingsOf(%v, %d) = %v, %v, want %v", c.g, c.q, got, ok, c.want)
		}
	}
}

// TestParkingsAreExact compares ParkingsOf with all reduced divisors with -1 at q, and checks that there is exactly one in each class, if q has as many chips as make the degree 0.
func TestParkingsAreExact(t *testing.T) {
	for _, g := range append(recurGraphs(), sparseGraphs(20)...) {
		for q := range g.N {
			got, ok := impl.ParkingsOf(g, q)
			if want := parkingsSlowly(g, q); !ok || !sameMatrix(got, want) {
				t.Fatalf("ParkingsOf(%v, %d) = %v, %v, want %v", g, q, got, ok, want)
			}
			checkOneInEachClass(t, g, got, q)
		}
	}
}

func TestParkingOfPile(t *testing.T) {
	fat, path := fatTriangle(), graphOf(3, 0, 1, 1, 2)
	for _, c := range []struct {
		g    impl.Graph
		p    []int
		q    int
		want []int
	}{
		{fat, []int{0, 0, 1}, 0, []int{-1, 2, 0}}, {fat, []int{0, 2, 1}, 0, []int{-1, 0, 0}}, {fat, []int{0, 1, 0}, 0, []int{-1, 1, 1}}, {fat, []int{0, 2, 0}, 0, []int{-1, 0, 1}}, {fat, []int{1, 2, 0}, 2, []int{1, 0, -1}}, {fat, []int{1, 0, 1}, 1, []int{1, -1, 0}},
		{fat, []int{0, 0, 0}, 0, nil}, {fat, []int{0, 3, 1}, 0, nil}, {fat, []int{0, 2, 2}, 0, nil}, {fat, []int{1, 1, 0}, 2, nil}, {fat, []int{-1, 2, 1}, 0, nil}, {fat, []int{1, 2, 1}, 0, nil}, {fat, []int{0, 2, -1}, 0, nil}, {fat, []int{0, 61, 1}, 0, nil}, {fat, []int{0, 2}, 0, nil}, {fat, nil, 0, nil}, {fat, []int{0, 2, 1}, 3, nil}, {fat, []int{0, 2, 1}, -1, nil},
		{graphOf(1), []int{0}, 0, []int{-1}}, {graphOf(1), []int{-1}, 0, nil}, {graphOf(1), []int{0}, 1, nil}, {parallel(1), []int{0, 0}, 1, []int{0, -1}}, {parallel(12), []int{0, 0}, 0, []int{-1, 11}}, {parallel(12), []int{0, 11}, 0, []int{-1, 0}}, {parallel(12), []int{0, 12}, 0, nil},
		{path, []int{0, 1, 0}, 0, []int{-1, 0, 0}}, {path, []int{0, 0, 0}, 1, []int{0, -1, 0}}, {path, []int{0, 0, 0}, 0, nil}, {completeGraph(4), []int{0, 2, 1, 0}, 0, []int{-1, 0, 1, 2}}, {graphOf(3, 0, 1), []int{0, 0, 0}, 0, nil}, {graphOf(0), nil, 0, nil},
	} {
		got, ok := impl.ParkingOfPile(c.g, c.p, c.q)
		if ok != (c.want != nil) || !slices.Equal(got, c.want) {
			t.Errorf("ParkingOfPile(%v, %v, %d) = %v, %v, want %v", c.g, c.p, c.q, got, ok, c.want)
		}
		if c.want == nil {
			continue
		}
		if back, ok := impl.PileOfParking(c.g, c.want, c.q); !ok || !slices.Equal(back, c.p) {
			t.Errorf("PileOfParking(%v, %v, %d) = %v, %v, want %v", c.g, c.want, c.q, back, ok, c.p)
		}
	}
}

// missingSlowly returns the greatest stable configuration minus a list, with x at q.
func missingSlowly(g impl.Graph, p []int, q int, x int) []int {
	missing := make([]int, g.N)
	for v := range missing {
		missing[v] = valenceSlowly(g, v) - 1 - p[v]
	}
	return withAt(missing, q, x)
}

// TestParkingsArePiles compares ParkingOfPile and PileOfParking with their definitions for all stable configurations.
func TestParkingsArePiles(t *testing.T) {
	answers := map[bool]int{}
	for _, g := range append(recurGraphs(), sparseGraphs(40)...) {
		for q := range g.N {
			for _, p := range stablePilesSlowly(g, q) {
				want := comesBackSlowly(g, p, q)
				answers[want]++
				missing := missingSlowly(g, p, q, -1)
				got, ok := impl.ParkingOfPile(g, p, q)
				if want && !(ok && slices.Equal(got, missing)) || !want && !isFailure(got, ok) {
					t.Fatalf("ParkingOfPile(%v, %v, %d) = %v, %v", g, p, q, got, ok)
				}
				back, fine := impl.PileOfParking(g, missing, q)
				if want && !(fine && slices.Equal(back, p)) || !want && !isFailure(back, fine) {
					t.Fatalf("PileOfParking(%v, %v, %d) = %v, %v", g, missing, q, back, fine)
				}
			}
		}
	}
	if answers[true] < 1000 || answers[false] < 1000 {
		t.Errorf("the answers are %v", answers)
	}
}

// TestPilesAreTrees checks that the functions lead from the recurrent configurations to the parking functions and to the spanning trees and back, one to one, and that the more chips a configuration has, the fewer its parking function has.
func TestPilesAreTrees(t *testing.T) {
	for _, g := range recurGraphs() {
		allTrees, _ := impl.TreesOf(g)
		genus := impl.GenusOf(g)
		for q := range g.N {
			piles, _ := impl.RecurrentPiles(g, q)
			allParkings, _ := impl.ParkingsOf(g, q)
			var parkings, trees [][]int
			for _, p := range piles {
				f, _ := impl.ParkingOfPile(g, p, q)
				tree, ok := impl.TreeOfParking(g, f, q)
				f2, fine := impl.ParkingOfTree(g, tree, q)
				p2, last := impl.PileOfParking(g, f2, q)
				if !ok || !fine || !last || !slices.Equal(f2, f) || !slices.Equal(p2, p) {
					t.Fatalf("%v on %v with the sink %d leads to %v, %v, %v and %v", p, g, q, f, tree, f2, p2)
				}
				if level, _ := impl.LevelOf(g, p, q); level != genus-impl.DegreeOf(f)-1 {
					t.Fatalf("%v on %v with the sink %d has the level %d and the parking function %v", p, g, q, level, f)
				}
				parkings, trees = append(parkings, f), append(trees, tree)
			}
			if !sameMatrix(sortedLists(parkings), allParkings) || !sameMatrix(sortedLists(trees), allTrees) {
				t.Fatalf("the recurrent configurations on %v with the sink %d lead to %v and %v", g, q, parkings, trees)
			}
		}
	}
}

// checkNoParking checks that all functions fail for f.
func checkNoParking(t *testing.T, name string, g impl.Graph, f []int, q int) {
	t.Helper()
	if impl.IsParking(g, f, q) {
		t.Fatalf("%s: IsParking(%v, %v, %d) = true", name, g, f, q)
	}
	if tree, ok := impl.TreeOfParking(g, f, q); !isFailure(tree, ok) {
		t.Fatalf("%s: TreeOfParking(%v, %v, %d) = %v, %v", name, g, f, q, tree, ok)
	}
	if p, ok := impl.PileOfParking(g, f, q); !isFailure(p, ok) {
		t.Fatalf("%s: PileOfParking(%v, %v, %d) = %v, %v", name, g, f, q, p, ok)
	}
}

func TestParkingRejects(t *testing.T) {
	eachBadReduction(func(name string, g impl.Graph, f []int, q int) { checkNoParking(t, name, g, f, q) })
	for _, g := range someGraphs() {
		for q := range g.N {
			for name, f := range badLists(g.N, 60) {
				// With -1 at q, only the list itself is wrong.
				if q < len(f) && (len(f) != g.N || !within(withAt(f, q, -1))) {
					checkNoParking(t, name, g, withAt(f, q, -1), q)
				}
			}
			for v := range g.N {
				f := withAt(make([]int, g.N), q, -1)
				if v != q {
					checkNoParking(t, "another vertex", g, f, v)
					checkNoParking(t, "a debt", g, withAt(f, v, -1), q)
					checkNoParking(t, "a debt", g, withAt(f, v, -60), q)
					checkNoParking(t, "can fire", g, withAt(f, v, valenceSlowly(g, v)), q)
					checkNoParking(t, "can fire", g, withAt(f, v, 60), q)
				}
			}
			for _, f := range divisorsOf(g.N) {
				f = withAt(f, q, -1)
				if !reducedSlowly(g, f, q) {
					checkNoParking(t, "not reduced", g, f, q)
				}
			}
			for _, odd := range oddSinks(g) {
				checkNoParking(t, "no such vertex", g, withAt(make([]int, g.N), q, -1), odd)
			}
		}
	}
	for name, g := range badGraphs() {
		for _, n := range lengthsFor(g) {
			for q := range n {
				checkNoParking(t, name, g, withAt(make([]int, n), q, -1), q)
			}
		}
	}
}

func TestParkingOfPileRejects(t *testing.T) {
	check := func(name string, g impl.Graph, p []int, q int) {
		if f, ok := impl.ParkingOfPile(g, p, q); !isFailure(f, ok) {
			t.Fatalf("%s: ParkingOfPile(%v, %v, %d) = %v, %v", name, g, p, q, f, ok)
		}
	}
	eachBadPile(check)
	eachPile(func(g impl.Graph, p []int, q int) {
		if len(unstableSlowly(g, p, q)) > 0 {
			check("unstable", g, p, q)
		}
	})
	for _, g := range recurGraphs() {
		for q := range g.N {
			check("chips at the sink", g, withAt(impl.FullPile(g, q), q, 1), q)
			check("a debt at the sink", g, withAt(impl.FullPile(g, q), q, -1), q)
			for _, odd := range oddSinks(g) {
				check("no such sink", g, impl.FullPile(g, q), odd)
			}
		}
	}
}

func TestTreeRejects(t *testing.T) {
	eachBadTree(func(name string, g impl.Graph, tree []int) {
		if impl.IsTree(g, tree) {
			t.Fatalf("%s: IsTree(%v, %v) = true", name, g, tree)
		}
		for q := range max(1, min(g.N, 7)) {
			if f, ok := impl.ParkingOfTree(g, tree, q); !isFailure(f, ok) {
				t.Fatalf("%s: ParkingOfTree(%v, %v, %d) = %v, %v", name, g, tree, q, f, ok)
			}
		}
	})
	for _, g := range recurGraphs() {
		tree := treesSlowly(g)[0]
		for _, q := range oddSinks(g) {
			if f, ok := impl.ParkingOfTree(g, tree, q); !isFailure(f, ok) {
				t.Fatalf("ParkingOfTree(%v, %v, %d) = %v, %v", g, tree, q, f, ok)
			}
		}
	}
}

func TestTreeListsReject(t *testing.T) {
	for name, g := range badGraphs() {
		if all, ok := impl.TreesOf(g); ok || len(all) != 0 {
			t.Errorf("%s: TreesOf(%v) = %v, %v", name, g, all, ok)
		}
	}
	eachBadSink(func(name string, g impl.Graph, q int) {
		if all, ok := impl.ParkingsOf(g, q); ok || len(all) != 0 {
			t.Errorf("%s: ParkingsOf(%v, %d) = %v, %v", name, g, q, all, ok)
		}
	})
}

// treeAnswers returns the answers of all functions of the chapter, as text. The first list is taken as a parking function and as a configuration.
func treeAnswers(g impl.Graph, a []int, tree []int, q int) string {
	trees, treesOk := impl.TreesOf(g)
	grown, grownOk := impl.TreeOfParking(g, a, q)
	f, fOk := impl.ParkingOfTree(g, tree, q)
	all, allOk := impl.ParkingsOf(g, q)
	rest, restOk := impl.ParkingOfPile(g, a, q)
	p, pOk := impl.PileOfParking(g, a, q)
	return fmt.Sprint(impl.IsTree(g, tree), impl.IsParking(g, a, q), trees, treesOk, grown, grownOk, f, fOk, all, allOk, rest, restOk, p, pOk)
}

// TestTreeArgumentsAreKept checks that no function changes its arguments or the memory behind them, and that a second call answers the same.
func TestTreeArgumentsAreKept(t *testing.T) {
	at := func(q int) func(impl.Graph, []int, []int) string {
		return func(g impl.Graph, a []int, tree []int) string { return treeAnswers(g, a, tree, q) }
	}
	for _, g := range groupGraphs() {
		trees := treesSlowly(g)
		for q := range g.N {
			parkings := parkingsSlowly(g, q)
			step := 1 + len(parkings)/10
			for k := q % step; k < len(parkings); k += step {
				f, tree := parkings[k], trees[(5*k+q)%len(trees)]
				checkKept(t, g, f, tree, at(q))
				checkKept(t, g, missingSlowly(g, f, q, 0), slices.Repeat(tree, 2), at(q))
				back := slices.Clone(tree)
				slices.Reverse(back)
				checkKept(t, g, tree, back, at(q))
			}
			checkKept(t, g, divisorsOf(g.N)[q], orderOf(12), at(q))
		}
	}
	checkOddKept(t, at(2))
}

// TestTreeResultsAreNew checks that results share no memory with arguments or with each other.
func TestTreeResultsAreNew(t *testing.T) {
	for _, g := range groupGraphs() {
		checkMatrixIsNew(t, func() [][]int {
			trees, _ := impl.TreesOf(g)
			return trees
		})
		trees := treesSlowly(g)
		for q := range g.N {
			checkMatrixIsNew(t, func() [][]int {
				parkings, _ := impl.ParkingsOf(g, q)
				return parkings
			})
			parkings := parkingsSlowly(g, q)
			for _, k := range []int{0, len(parkings) / 2, len(parkings) - 1} {
				checkCombination(t, parkings[k], nil, func(f []int, _ []int) ([]int, bool) { return impl.TreeOfParking(g, f, q) })
				checkCombination(t, parkings[k], nil, func(f []int, _ []int) ([]int, bool) { return impl.PileOfParking(g, f, q) })
				checkCombination(t, trees[k], nil, func(tree []int, _ []int) ([]int, bool) { return impl.ParkingOfTree(g, tree, q) })
				checkCombination(t, missingSlowly(g, parkings[k], q, 0), nil, func(p []int, _ []int) ([]int, bool) { return impl.ParkingOfPile(g, p, q) })
			}
		}
	}
}

func TestTreeCallsAtOnce(t *testing.T) {
	for _, g := range []impl.Graph{graphOf(1), parallel(12), fatTriangle(), doubledPath(), completeGraph(4), octahedron()} {
		q, trees := g.N-1, treesSlowly(g)
		for _, a := range [][]int{parkingsSlowly(g, q)[len(trees)/2], impl.FullPile(g, q)} {
			checkAtOnce(t, g, a, trees[len(trees)/2], func(g impl.Graph, a []int, tree []int) string { return treeAnswers(g, a, tree, q) })
		}
	}
}
