package tests

import (
	"fmt"
	"math"
	"math/big"
	"slices"
	"testing"

	"loop.example/g00841/impl"
)

// someGraphs returns a few valid graphs of every size, which other tests combine with many lists.
func someGraphs() []impl.Graph {
	return []impl.Graph{
		graphOf(1), parallel(1), parallel(12), graphOf(3, 0, 1, 0, 1, 0, 2, 1, 2), graphOf(3, 0, 2, 1, 2), completeGraph(4),
		graphOf(4, 0, 1, 0, 1, 0, 2, 1, 2, 1, 2, 1, 2, 2, 3), completeGraph(5), graphOf(5, 0, 4, 1, 4, 2, 4, 3, 4),
		graphOf(6, 0, 5, 1, 4, 1, 5, 2, 3, 2, 4), graphOf(6, 0, 1, 0, 2, 1, 2, 2, 3, 3, 4, 3, 5, 4, 5),
		graphOf(6, 0, 1, 0, 2, 0, 3, 0, 4, 1, 2, 1, 4, 1, 5, 2, 3, 2, 5, 3, 4, 3, 5, 4, 5),
	}
}

// beyond returns ints that are not from -limit to limit, the extreme ones among them.
func beyond(limit int) []int {
	return []int{
		limit + 1, -limit - 1, limit + 2, -limit - 2, 1 << 20, -1 << 20, 1 << 32, -1 << 32, 1<<32 + 1,
		math.MaxInt, math.MaxInt - 1, math.MinInt, math.MinInt + 1,
	}
}

// badLists returns lists that do not have n elements from -limit to limit, of every kind.
func badLists(n int, limit int) map[string][]int {
	all := map[string][]int{"no list": nil, "no elements": {}}
	for length := range 15 {
		if length != n {
			all[fmt.Sprint(length, " elements")] = make([]int, length)
		}
	}
	for v := range n {
		for _, x := range beyond(limit) {
			l := slices.Repeat([]int{1}, n)
			l[v] = x
			all[fmt.Sprint("element ", v, " is ", x)] = l
		}
	}
	return all
}

// lengthsFor returns the lengths of lists with which a graph that is not valid is tried.
func lengthsFor(g impl.Graph) []int {
	lengths := []int{0, 1, 2, 3, 4, 5, 6, 7}
	if 7 < g.N && g.N < 1000 {
		lengths = append(lengths, g.N)
	}
	return lengths
}

// listsOf returns count lists of n ints from -most to most.
func listsOf(count int, n int, most int) [][]int {
	next := numbers(most)
	all := make([][]int, count)
	for k := range all {
		for range n {
			all[k] = append(all[k], next())
		}
	}
	return all
}

// subsetsOf returns all ascending lists of ints from 0 up to n.
func subsetsOf(n int) [][]int {
	var all [][]int
	for k := range n + 1 {
		all = append(all, chooseOf(n, k)...)
	}
	return all
}

// ordersOf returns all orders of the elements of a list.
func ordersOf(l []int) [][]int {
	if len(l) == 0 {
		return [][]int{nil}
	}
	var all [][]int
	for i, x := range l {
		for _, rest := range ordersOf(slices.Delete(slices.Clone(l), i, i+1)) {
			all = append(all, append([]int{x}, rest...))
		}
	}
	return all
}

// scriptOf returns the script with n vertices that has 1 for each vertex of set.
func scriptOf(n int, set []int) []int {
	s := make([]int, n)
	for _, v := range set {
		s[v] = 1
	}
	return s
}

// fireSlowly is FireScript of valid arguments by its definition.
func fireSlowly(g impl.Graph, d []int, s []int) []int {
	after := make([]int, g.N)
	for v := range g.N {
		after[v] = d[v]
		for _, e := range g.Edges {
			if e.A == v || e.B == v {
				after[v] -= s[v]
			}
			for w := range g.N {
				if e == (impl.Edge{A: v, B: w}) || e == (impl.Edge{A: w, B: v}) {
					after[v] += s[w]
				}
			}
		}
	}
	return after
}

// sumOf returns the sum of a list without wrapping around.
func sumOf(l []int) *big.Int {
	sum := new(big.Int)
	for _, x := range l {
		sum.Add(sum, big.NewInt(int64(x)))
	}
	return sum
}

// wrapped returns the int that a sum is when it wraps around.
func wrapped(sum *big.Int) int {
	// Mod is never negative, so the rest is an uint64.
	rest := new(big.Int).Mod(sum, new(big.Int).Lsh(big.NewInt(1), 64))
	return int(rest.Uint64())
}

// wildLists returns lists of every length up to 8 and of length 100 with elements near 0, near the powers of 2 and near the extremes.
func wildLists() [][]int {
	pool := sampleInts()
	next := numbers(1 << 40)
	all := [][]int{nil, {}}
	for k := range 400 {
		n := 1 + k%8
		if k%50 == 0 {
			n = 100
		}
		var l []int
		for range n {
			l = append(l, pool[(next()+1<<40)%len(pool)])
		}
		all = append(all, l)
	}
	return all
}

func TestDivisorConstants(t *testing.T) {
	if impl.MaxChips != 60 {
		t.Errorf("MaxChips = %d", impl.MaxChips)
	}
}

// checkListOk checks a validation function of lists of numbers from -limit to limit.
func checkListOk(t *testing.T, limit int, accepts func(impl.Graph, []int) bool) {
	for _, g := range someGraphs() {
		for v := range g.N {
			for _, x := range []int{limit, -limit, limit - 1, -limit + 1, 0, 1, -1} {
				l := make([]int, g.N)
				l[v] = x
				if !accepts(g, l) || !accepts(g, slices.Repeat([]int{x}, g.N)) {
					t.Errorf("%v with %d at vertex %d of %v is not accepted", l, x, v, g)
				}
			}
		}
		for name, l := range badLists(g.N, limit) {
			if accepts(g, l) {
				t.Errorf("%s: %v is accepted for %v", name, l, g)
			}
		}
	}
	for _, g := range goodGraphs() {
		if !accepts(g, make([]int, g.N)) || accepts(g, make([]int, g.N+1)) || accepts(g, make([]int, g.N-1)) {
			t.Errorf("for %v, not exactly the lists of %d elements are accepted", g, g.N)
		}
	}
	for name, g := range badGraphs() {
		for _, n := range lengthsFor(g) {
			if accepts(g, make([]int, n)) {
				t.Errorf("%s: %d elements are accepted for %v", name, n, g)
			}
		}
	}
}

func TestDivisorOk(t *testing.T) {
	checkListOk(t, 60, impl.DivisorOk)
}

func TestScriptOk(t *testing.T) {
	checkListOk(t, 100000, impl.ScriptOk)
	if !impl.ScriptOk(parallel(1), []int{61, -61}) || impl.DivisorOk(parallel(1), []int{61, -61}) {
		t.Error("scripts and divisors have the same limit")
	}
}

func TestDegreeOf(t *testing.T) {
	cases := []struct {
		d    []int
		want int
	}{
		{nil, 0}, {[]int{}, 0}, {[]int{5}, 5}, {[]int{-5}, -5}, {[]int{3, -1, 0, 4}, 6}, {[]int{1, 2, 3, 4, 5, 6, 7, 8}, 36},
		{[]int{61, -61, 1000}, 1000}, {[]int{math.MaxInt}, math.MaxInt}, {[]int{math.MinInt}, math.MinInt},
		{[]int{math.MaxInt, 1}, math.MinInt}, {[]int{math.MinInt, -1}, math.MaxInt}, {[]int{math.MaxInt, math.MaxInt}, -2},
		{[]int{math.MinInt, math.MinInt}, 0}, {[]int{math.MaxInt, 1, -1}, math.MaxInt}, {[]int{math.MinInt, math.MaxInt}, -1},
	}
	for _, c := range cases {
		if got := impl.DegreeOf(c.d); got != c.want {
			t.Errorf("DegreeOf(%v) = %d, want %d", c.d, got, c.want)
		}
	}
	for _, d := range wildLists() {
		if got, want := impl.DegreeOf(d), wrapped(sumOf(d)); got != want {
			t.Errorf("DegreeOf(%v) = %d, want %d", d, got, want)
		}
	}
}

func TestIsEffective(t *testing.T) {
	for _, d := range [][]int{nil, {}, {0}, {1}, {0, 0, 0}, {61, 0, 5}, {math.MaxInt, 0}, {0, math.MaxInt}, make([]int, 100)} {
		if !impl.IsEffective(d) {
			t.Errorf("IsEffective(%v) = false", d)
		}
	}
	for n := 1; n <= 8; n++ {
		for v := range n {
			for _, x := range []int{-1, -2, -60, -61, -1 << 32, math.MinInt, math.MinInt + 1} {
				d := slices.Repeat([]int{1}, n)
				d[v] = x
				if impl.IsEffective(d) {
					t.Errorf("IsEffective(%v) = true", d)
				}
			}
		}
	}
	for _, d := range wildLists() {
		if got, want := impl.IsEffective(d), len(d) == 0 || slices.Min(d) >= 0; got != want {
			t.Errorf("IsEffective(%v) = %v", d, got)
		}
	}
}

func TestFireScript(t *testing.T) {
	fat := graphOf(3, 0, 1, 0, 1, 0, 2, 1, 2)
	chain := graphOf(4, 0, 1, 0, 1, 0, 2, 1, 2, 1, 2, 1, 2, 2, 3)
	cases := []struct {
		g          impl.Graph
		d, s, want []int
	}{
		{fat, []int{5, 0, -5}, []int{3, 2, 0}, []int{0, 0, 0}},
		{fat, []int{0, 0, 0}, []int{1, 0, 0}, []int{-3, 2, 1}},
		{fat, []int{0, 0, 0}, []int{0, -1, 0}, []int{-2, 3, -1}},
		{fat, []int{1, 2, 3}, []int{0, 0, 0}, []int{1, 2, 3}},
		{fat, []int{1, 2, 3}, []int{7, 7, 7}, []int{1, 2, 3}},
		{fat, []int{1, 2, 3}, []int{-7, -7, -7}, []int{1, 2, 3}},
		{graphOf(1), []int{-60}, []int{100000}, []int{-60}},
		{graphOf(1), []int{60}, []int{-100000}, []int{60}},
		{parallel(1), []int{60, -60}, []int{-1, 0}, []int{61, -61}},
		{parallel(12), []int{60, -60}, []int{-100000, 100000}, []int{2400060, -2400060}},
		{parallel(12), []int{-60, 60}, []int{100000, -100000}, []int{-2400060, 2400060}},
		{parallel(12), []int{60, 60}, []int{100000, 100000}, []int{60, 60}},
		{chain, []int{0, 0, 0, 0}, []int{0, 0, 0, 1}, []int{0, 0, 1, -1}},
		{chain, []int{1, 1, 1, 1}, []int{0, 2, 1, 0}, []int{6, -6, 2, 2}},
	}
	for _, c := range cases {
		if got, ok := impl.FireScript(c.g, c.d, c.s); !ok || !slices.Equal(got, c.want) {
			t.Errorf("FireScript(%v, %v, %v) = %v, %v, want %v", c.g, c.d, c.s, got, ok, c.want)
		}
	}
}

// TestFireScriptIsExact compares FireScript with its definition and with the matrix of the graph.
func TestFireScriptIsExact(t *testing.T) {
	check := func(g impl.Graph, d []int, s []int) {
		want := fireSlowly(g, d, s)
		got, ok := impl.FireScript(g, d, s)
		if !ok || !slices.Equal(got, want) {
			t.Fatalf("FireScript(%v, %v, %v) = %v, %v, want %v", g, d, s, got, ok, want)
		}
		for v, lost := range impl.TimesVector(impl.LaplacianOf(g), s) {
			if got[v] != d[v]-lost {
				t.Fatalf("FireScript(%v, %v, %v) = %v, but the matrix takes %d at %d", g, d, s, got, lost, v)
			}
		}
	}
	for _, g := range goodGraphs() {
		divisors, scripts := listsOf(3, g.N, 60), listsOf(3, g.N, 100000)
		for i := range divisors {
			check(g, divisors[i], scripts[i])
		}
	}
	for _, g := range someGraphs() {
		for _, signs := range listsOf(40, g.N, 1) {
			d, s := make([]int, g.N), make([]int, g.N)
			for v, sign := range signs {
				d[v], s[v] = -60*sign, 100000*sign
			}
			check(g, d, s)
		}
	}
}

func TestFireScriptRejects(t *testing.T) {
	check := func(name string, g impl.Graph, d []int, s []int) {
		if got, ok := impl.FireScript(g, d, s); ok || len(got) != 0 {
			t.Errorf("%s: FireScript(%v, %v, %v) = %v, %v", name, g, d, s, got, ok)
		}
	}
	for _, g := range someGraphs() {
		for name, d := range badLists(g.N, 60) {
			check("divisor: "+name, g, d, make([]int, g.N))
			check("divisor, and a script as long: "+name, g, d, make([]int, len(d)))
		}
		for name, s := range badLists(g.N, 100000) {
			check("script: "+name, g, make([]int, g.N), s)
			check("script, and a divisor as long: "+name, g, make([]int, len(s)), s)
		}
	}
	for name, g := range badGraphs() {
		for _, n := range lengthsFor(g) {
			check(name, g, make([]int, n), make([]int, n))
		}
	}
}

// TestFiringKeepsClasses checks that firing keeps the degree, that scripts add up whatever their order, that the negative script leads back, and that only constant scripts change nothing.
func TestFiringKeepsClasses(t *testing.T) {
	fire := func(g impl.Graph, d []int, s []int) []int {
		after, ok := impl.FireScript(g, d, s)
		if !ok {
			t.Fatalf("FireScript(%v, %v, %v) fails", g, d, s)
		}
		return after
	}
	for _, g := range goodGraphs() {
		d := listsOf(1, g.N, 20)[0]
		scripts := listsOf(2, g.N, 1)
		one, two := scripts[0], scripts[1]
		both, _ := impl.AddDivisors(one, two)
		middle := fire(g, d, one)
		end := fire(g, middle, two)
		if impl.DegreeOf(middle) != impl.DegreeOf(d) || impl.DegreeOf(end) != impl.DegreeOf(d) {
			t.Fatalf("firing on %v leads from %v to %v and %v", g, d, middle, end)
		}
		if !impl.SameDivisor(fire(g, d, both), end) || !impl.SameDivisor(fire(g, fire(g, d, two), one), end) {
			t.Fatalf("the scripts %v and %v do not add up on %v", one, two, g)
		}
		if !impl.SameDivisor(fire(g, end, impl.NegateDivisor(both)), d) {
			t.Fatalf("the script %v borrowed does not lead back to %v on %v", both, d, g)
		}
		if constant := slices.Min(both) == slices.Max(both); constant != impl.SameDivisor(end, d) {
			t.Fatalf("the script %v leads from %v to %v on %v", both, d, end, g)
		}
	}
}

func TestFireSet(t *testing.T) {
	fat := graphOf(3, 0, 1, 0, 1, 0, 2, 1, 2)
	cases := []struct {
		g            impl.Graph
		d, set, want []int
	}{
		{fat, []int{1, 1, 0}, []int{0, 1}, []int{0, 0, 2}},
		{fat, []int{1, 1, 0}, []int{1, 0}, []int{0, 0, 2}},
		{fat, []int{1, 1, 0}, nil, []int{1, 1, 0}},
		{fat, []int{1, 1, 0}, []int{}, []int{1, 1, 0}},
		{fat, []int{1, 1, 0}, []int{2, 0, 1}, []int{1, 1, 0}},
		{fat, []int{-5, 0, 7}, []int{2}, []int{-4, 1, 5}},
		{fat, []int{60, -60, 0}, []int{1}, []int{62, -63, 1}},
		{graphOf(1), []int{-60}, []int{0}, []int{-60}},
		{graphOf(1), []int{60}, nil, []int{60}},
		{parallel(12), []int{-60, 60}, []int{0}, []int{-72, 72}},
		{completeGraph(5), []int{0, 0, 0, 0, 0}, []int{4, 2}, []int{2, 2, -3, 2, -3}},
	}
	for _, c := range cases {
		if got, ok := impl.FireSet(c.g, c.d, c.set); !ok || !slices.Equal(got, c.want) {
			t.Errorf("FireSet(%v, %v, %v) = %v, %v, want %v", c.g, c.d, c.set, got, ok, c.want)
		}
	}
}

// TestFireSetIsExact compares FireSet with the script of its set, for all sets and, where they are small, in all orders.
func TestFireSetIsExact(t *testing.T) {
	check := func(g impl.Graph, d []int, set []int) {
		want := fireSlowly(g, d, scriptOf(g.N, set))
		if got, ok := impl.FireSet(g, d, set); !ok || !slices.Equal(got, want) {
			t.Fatalf("FireSet(%v, %v, %v) = %v, %v, want %v", g, d, set, got, ok, want)
		}
	}
	for _, g := range someGraphs() {
		for _, set := range subsetsOf(g.N) {
			for _, d := range listsOf(3, g.N, 60) {
				check(g, d, set)
			}
			for _, order := range ordersOf(set) {
				check(g, make([]int, g.N), order)
			}
		}
	}
	for k, g := range goodGraphs() {
		sets := subsetsOf(g.N)
		check(g, listsOf(1, g.N, 60)[0], sets[k%len(sets)])
	}
}

// badSets returns lists that are no sets of vertices of a graph with n vertices.
func badSets(n int) map[string][]int {
	all := map[string][]int{"seven vertices": {0, 1, 2, 3, 4, 5, 6}, "all and one more": append(orderOf(n), n), "very long": make([]int, 5000)}
	for v := range n {
		all[fmt.Sprint(v, " twice")] = []int{v, v}
		all[fmt.Sprint(v, " twice in all")] = append(orderOf(n), v)
		all[fmt.Sprint(v, " thrice")] = []int{v, v, v}
		all[fmt.Sprint(v, " at both ends")] = append(append([]int{v}, orderOf(n)...), v)
	}
	for _, x := range append(oddInts(), n, n+1, 64, 1<<32) {
		if 0 <= x && x < n {
			continue
		}
		all[fmt.Sprint("only ", x)] = []int{x}
		all[fmt.Sprint("last ", x)] = []int{0, x}
		all[fmt.Sprint("first ", x)] = []int{x, 0}
		all[fmt.Sprint("behind all ", x)] = append(orderOf(n), x)
	}
	return all
}

// orderOf returns the ints from 0 up to n.
func orderOf(n int) []int {
	l := make([]int, n)
	for v := range l {
		l[v] = v
	}
	return l
}

// eachBadFiring calls check with arguments that FireSet does not accept, of every kind.
func eachBadFiring(check func(name string, g impl.Graph, d []int, set []int)) {
	for _, g := range someGraphs() {
		for name, d := range badLists(g.N, 60) {
			for _, set := range [][]int{nil, {0}, orderOf(g.N)} {
				check(name, g, d, set)
			}
		}
		for name, set := range badSets(g.N) {
			check(name, g, slices.Repeat([]int{60}, g.N), set)
		}
	}
	for name, g := range badGraphs() {
		for _, n := range lengthsFor(g) {
			for _, set := range [][]int{nil, {0}, {1}, {0, 1}, {0, 0}, {-1}, {6}, {math.MaxInt}, {math.MinInt}} {
				check(name, g, slices.Repeat([]int{60}, n), set)
			}
		}
	}
}

func TestFireSetRejects(t *testing.T) {
	eachBadFiring(func(name string, g impl.Graph, d []int, set []int) {
		if got, ok := impl.FireSet(g, d, set); ok || len(got) != 0 {
			t.Errorf("%s: FireSet(%v, %v, %v) = %v, %v", name, g, d, set, got, ok)
		}
	})
}

func TestIsLegalSet(t *testing.T) {
	fat := graphOf(3, 0, 1, 0, 1, 0, 2, 1, 2)
	cases := []struct {
		g      impl.Graph
		d, set []int
		want   bool
	}{
		{fat, []int{1, 1, 0}, []int{1, 0}, true},
		{fat, []int{1, 1, 0}, []int{0, 1}, true},
		{fat, []int{1, 1, 0}, []int{0}, false},
		{fat, []int{1, 0, 0}, []int{0, 1}, false},
		{fat, []int{0, 1, 0}, []int{0, 1}, false},
		{fat, []int{3, 0, 0}, []int{0}, true},
		{fat, []int{2, 0, 0}, []int{0}, false},
		{fat, []int{3, -60, -1}, []int{0}, true},
		{fat, []int{-1, 0, 0}, nil, true},
		{fat, []int{-1, 0, 0}, []int{}, true},
		{fat, []int{-1, 0, 0}, []int{0, 1, 2}, false},
		{fat, []int{0, 0, 0}, []int{2, 1, 0}, true},
		{fat, []int{60, 60, -60}, []int{0, 1}, true},
		{graphOf(1), []int{0}, []int{0}, true},
		{graphOf(1), []int{-1}, []int{0}, false},
		{graphOf(1), []int{-1}, nil, true},
		{parallel(12), []int{12, -60}, []int{0}, true},
		{parallel(12), []int{11, 60}, []int{0}, false},
		{parallel(12), []int{60, 11}, []int{1}, false},
	}
	for _, c := range cases {
		if got := impl.IsLegalSet(c.g, c.d, c.set); got != c.want {
			t.Errorf("IsLegalSet(%v, %v, %v) = %v", c.g, c.d, c.set, got)
		}
	}
}

// TestIsLegalSetIsExact compares IsLegalSet with its definition, for all sets and for divisors near the border between both answers.
func TestIsLegalSetIsExact(t *testing.T) {
	for _, g := range someGraphs() {
		answers := map[bool]int{}
		for _, set := range subsetsOf(g.N) {
			for _, d := range legalDivisors(g, set) {
				after := fireSlowly(g, d, scriptOf(g.N, set))
				want := !slices.ContainsFunc(set, func(v int) bool { return after[v] < 0 })
				got := impl.IsLegalSet(g, d, set)
				slices.Reverse(set)
				if got != want || impl.IsLegalSet(g, d, set) != want {
					t.Fatalf("IsLegalSet(%v, %v, %v) = %v", g, d, set, got)
				}
				slices.Reverse(set)
				answers[want]++
			}
		}
		if answers[true] == 0 || answers[false] == 0 {
			t.Fatalf("the divisors of %v give only one answer", g)
		}
	}
}

// legalDivisors returns the divisor with the least numbers of chips for which a set of vertices is legal, those with one chip more or less at one vertex, and those with debts at one vertex.
func legalDivisors(g impl.Graph, set []int) [][]int {
	least := make([]int, g.N)
	for v, chips := range fireSlowly(g, least, scriptOf(g.N, set)) {
		least[v] = max(0, -chips)
	}
	all := [][]int{least}
	for v := range g.N {
		for _, x := range []int{-60, -1, least[v] - 1, least[v] + 1, 60} {
			d := slices.Clone(least)
			d[v] = x
			all = append(all, d)
		}
	}
	return all
}

func TestIsLegalSetRejects(t *testing.T) {
	eachBadFiring(func(name string, g impl.Graph, d []int, set []int) {
		if impl.IsLegalSet(g, d, set) {
			t.Errorf("%s: IsLegalSet(%v, %v, %v) = true", name, g, d, set)
		}
	})
}

func TestAddDivisors(t *testing.T) {
	cases := []struct{ a, b, want []int }{
		{nil, nil, nil}, {[]int{}, nil, nil}, {nil, []int{}, nil}, {[]int{1}, []int{2}, []int{3}},
		{[]int{1, -2}, []int{3, 4}, []int{4, 2}}, {[]int{60, -60, 0}, []int{60, -60, 0}, []int{120, -120, 0}},
		{[]int{math.MaxInt, math.MinInt}, []int{1, -1}, []int{math.MinInt, math.MaxInt}},
		{[]int{math.MaxInt, math.MinInt}, []int{math.MaxInt, math.MinInt}, []int{-2, 0}},
		{[]int{math.MaxInt, 0}, []int{math.MinInt, math.MinInt}, []int{-1, math.MinInt}},
		{[]int{1, 2, 3, 4, 5, 6, 7, 8}, []int{8, 7, 6, 5, 4, 3, 2, 1}, []int{9, 9, 9, 9, 9, 9, 9, 9}},
	}
	for _, c := range cases {
		for _, l := range [][2][]int{{c.a, c.b}, {c.b, c.a}} {
			if got, ok := impl.AddDivisors(l[0], l[1]); !ok || !slices.Equal(got, c.want) {
				t.Errorf("AddDivisors(%v, %v) = %v, %v, want %v", l[0], l[1], got, ok, c.want)
			}
		}
	}
}

// TestAddDivisorsIsExact compares AddDivisors of all pairs of wild lists with sums of big ints.
func TestAddDivisorsIsExact(t *testing.T) {
	lists := wildLists()
	for i, a := range lists {
		for _, b := range lists[:i+1] {
			got, ok := impl.AddDivisors(a, b)
			if len(a) != len(b) {
				if ok || len(got) != 0 {
					t.Fatalf("AddDivisors(%v, %v) = %v, %v", a, b, got, ok)
				}
				continue
			}
			if !ok || len(got) != len(a) {
				t.Fatalf("AddDivisors(%v, %v) = %v, %v", a, b, got, ok)
			}
			for v := range got {
				if want := wrapped(sumOf([]int{a[v], b[v]})); got[v] != want {
					t.Fatalf("AddDivisors(%v, %v) = %v, but %d at %d", a, b, got, want, v)
				}
			}
		}
	}
}

func TestAddDivisorsRejects(t *testing.T) {
	for n := range 10 {
		for m := range 10 {
			got, ok := impl.AddDivisors(slices.Repeat([]int{3}, n), slices.Repeat([]int{4}, m))
			if ok != (n == m) || ok && !slices.Equal(got, slices.Repeat([]int{7}, n)) || !ok && len(got) != 0 {
				t.Errorf("AddDivisors of %d and %d elements = %v, %v", n, m, got, ok)
			}
		}
	}
	if got, ok := impl.AddDivisors(nil, []int{0}); ok || len(got) != 0 {
		t.Errorf("AddDivisors of nil and one element = %v, %v", got, ok)
	}
}

func TestNegateDivisor(t *testing.T) {
	cases := []struct{ d, want []int }{
		{nil, nil}, {[]int{}, nil}, {[]int{0}, []int{0}}, {[]int{1, -2, 0, 60}, []int{-1, 2, 0, -60}},
		{[]int{math.MaxInt, math.MinInt}, []int{math.MinInt + 1, math.MinInt}}, {[]int{math.MinInt + 1}, []int{math.MaxInt}},
		{[]int{1, 2, 3, 4, 5, 6, 7, 8}, []int{-1, -2, -3, -4, -5, -6, -7, -8}},
	}
	for _, c := range cases {
		if got := impl.NegateDivisor(c.d); !slices.Equal(got, c.want) {
			t.Errorf("NegateDivisor(%v) = %v, want %v", c.d, got, c.want)
		}
	}
	for _, d := range wildLists() {
		got := impl.NegateDivisor(d)
		sum, ok := impl.AddDivisors(d, got)
		if !ok || !slices.Equal(sum, make([]int, len(d))) || !slices.Equal(impl.NegateDivisor(got), d) {
			t.Fatalf("NegateDivisor(%v) = %v", d, got)
		}
	}
}

func TestOneAt(t *testing.T) {
	for _, g := range someGraphs() {
		for v := range g.N {
			for n := -60; n <= 60; n++ {
				want := make([]int, g.N)
				want[v] = n
				got, ok := impl.OneAt(g, v, n)
				if !ok || !slices.Equal(got, want) {
					t.Fatalf("OneAt(%v, %d, %d) = %v, %v", g, v, n, got, ok)
				}
				if !impl.DivisorOk(g, got) || impl.DegreeOf(got) != n || impl.IsEffective(got) != (n >= 0) {
					t.Fatalf("OneAt(%v, %d, %d) = %v is no divisor of this degree", g, v, n, got)
				}
			}
		}
	}
	for _, g := range goodGraphs() {
		if got, ok := impl.OneAt(g, g.N-1, -3); !ok || !slices.Equal(got, append(make([]int, g.N-1), -3)) {
			t.Fatalf("OneAt(%v, %d, -3) = %v, %v", g, g.N-1, got, ok)
		}
	}
}

func TestOneAtRejects(t *testing.T) {
	check := func(name string, g impl.Graph, v int, n int) {
		if got, ok := impl.OneAt(g, v, n); ok || len(got) != 0 {
			t.Errorf("%s: OneAt(%v, %d, %d) = %v, %v", name, g, v, n, got, ok)
		}
	}
	for _, g := range someGraphs() {
		for v := range g.N {
			for _, n := range beyond(60) {
				check("number", g, v, n)
			}
		}
		for _, v := range append(oddInts(), g.N, g.N+1) {
			for _, n := range []int{0, 1, -1, 60, -60, 61, math.MinInt, math.MaxInt} {
				check("vertex", g, v, n)
			}
		}
	}
	for name, g := range badGraphs() {
		for _, v := range append(oddInts(), 0, 1, g.N-1) {
			for _, n := range []int{0, 1, 60} {
				check(name, g, v, n)
			}
		}
	}
}

func TestSameDivisor(t *testing.T) {
	same := [][2][]int{
		{nil, nil}, {nil, {}}, {{}, nil}, {{}, {}}, {{0}, {0}}, {{1, -2, 3}, {1, -2, 3}},
		{{math.MaxInt, math.MinInt}, {math.MaxInt, math.MinInt}}, {make([]int, 100), make([]int, 100)},
	}
	for _, l := range same {
		if !impl.SameDivisor(l[0], l[1]) {
			t.Errorf("SameDivisor(%v, %v) = false", l[0], l[1])
		}
	}
	different := [][2][]int{
		{nil, {0}}, {{}, {0}}, {{0}, {1}}, {{1}, {-1}}, {{0, 0}, {0}}, {{1, 2}, {2, 1}}, {{1, 2, 3}, {1, 2}}, {{1, 2, 3}, {2, 3}},
		{{1, 0, 0}, {0, 1, 0}}, {{1, 2, 3}, {1, 2, 4}}, {{1, 2, 3}, {0, 2, 3}}, {{math.MaxInt}, {math.MinInt}}, {{math.MaxInt}, {-1}},
		{{math.MinInt}, {0}}, {{1 << 32}, {0}}, {make([]int, 100), make([]int, 99)},
	}
	for _, l := range different {
		if impl.SameDivisor(l[0], l[1]) || impl.SameDivisor(l[1], l[0]) {
			t.Errorf("SameDivisor(%v, %v) = true", l[0], l[1])
		}
	}
	for _, d := range wildLists() {
		if !impl.SameDivisor(d, slices.Clone(d)) || !impl.SameDivisor(d, d) || impl.SameDivisor(d, append(slices.Clone(d), 0)) {
			t.Errorf("SameDivisor of %v and copies of it is wrong", d)
		}
		for v := range d {
			other := slices.Clone(d)
			other[v] ^= 1
			if impl.SameDivisor(d, other) {
				t.Errorf("SameDivisor(%v, %v) = true", d, other)
			}
		}
	}
}

// divisorAnswers returns the answers of all functions of the chapter, as text.
func divisorAnswers(g impl.Graph, a []int, b []int) string {
	fired, fireOk := impl.FireScript(g, a, b)
	moved, moveOk := impl.FireSet(g, a, b)
	sums, sumOk := impl.AddDivisors(a, b)
	one, oneOk := impl.OneAt(g, g.N-1, 3)
	return fmt.Sprint(
		impl.DivisorOk(g, a), impl.ScriptOk(g, a), impl.DegreeOf(a), impl.IsEffective(a), fired, fireOk, moved, moveOk,
		impl.IsLegalSet(g, a, b), sums, sumOk, impl.NegateDivisor(a), one, oneOk, impl.SameDivisor(a, b),
	)
}

// checkKept checks that functions change neither a graph and two lists nor the memory behind them, and that they answer the same a second time. It calls them by answers, which returns their answers as text.
func checkKept(t *testing.T, g impl.Graph, a []int, b []int, answers func(impl.Graph, []int, []int) string) {
	graph, one, two := spacious(g), roomyList(a), roomyList(b)
	edges, oneAll, twoAll := slices.Clone(graph.Edges[:cap(graph.Edges)]), slices.Clone(one[:cap(one)]), slices.Clone(two[:cap(two)])
	first := answers(graph, one, two)
	if graph.N != g.N || !slices.Equal(graph.Edges[:cap(graph.Edges)], edges) {
		t.Fatalf("the graph %v or the memory behind it has changed", g)
	}
	if !slices.Equal(one[:cap(one)], oneAll) || !slices.Equal(two[:cap(two)], twoAll) {
		t.Fatalf("%v, %v or the memory behind them has changed", a, b)
	}
	if answers(graph, one, two) != first || answers(g, a, b) != first {
		t.Fatalf("a second call with %v, %v and %v answers something else", g, a, b)
	}
}

// checkOddKept is checkKept for graphs and lists that are not valid.
func checkOddKept(t *testing.T, answers func(impl.Graph, []int, []int) string) {
	for _, g := range badGraphs() {
		for _, n := range lengthsFor(g) {
			checkKept(t, g, slices.Repeat([]int{2}, n), slices.Repeat([]int{1}, n), answers)
		}
	}
	for _, d := range wildLists() {
		checkKept(t, completeGraph(4), d, d, answers)
		checkKept(t, completeGraph(4), d, make([]int, 4), answers)
		checkKept(t, completeGraph(4), make([]int, 4), d, answers)
	}
}

// TestDivisorArgumentsAreKept checks that no function changes its arguments or the memory behind them, and that a second call answers the same.
func TestDivisorArgumentsAreKept(t *testing.T) {
	check := func(g impl.Graph, a []int, b []int) { checkKept(t, g, a, b, divisorAnswers) }
	for _, g := range append(someGraphs(), goodGraphs()[:200]...) {
		for _, d := range listsOf(3, g.N, 60) {
			check(g, d, d)
			check(g, d, orderOf(g.N))
			check(g, d, []int{0})
		}
	}
	checkOddKept(t, divisorAnswers)
}

// TestDivisorResultsAreNew checks that results share no memory with arguments or with each other.
func TestDivisorResultsAreNew(t *testing.T) {
	for _, g := range someGraphs() {
		none := make([]int, g.N)
		for _, d := range listsOf(3, g.N, 9) {
			checkCombination(t, d, none, func(a []int, s []int) ([]int, bool) { return impl.FireScript(g, a, s) })
			checkCombination(t, d, d, func(a []int, s []int) ([]int, bool) { return impl.FireScript(g, a, s) })
			checkCombination(t, d, nil, func(a []int, set []int) ([]int, bool) { return impl.FireSet(g, a, set) })
			checkCombination(t, d, orderOf(g.N), func(a []int, set []int) ([]int, bool) { return impl.FireSet(g, a, set) })
			checkCombination(t, d, none, impl.AddDivisors)
			checkCombination(t, none, d, impl.AddDivisors)
			checkCombination(t, d, nil, func(a []int, b []int) ([]int, bool) { return impl.NegateDivisor(a), true })
			checkCombination(t, none, nil, func(a []int, b []int) ([]int, bool) { return impl.NegateDivisor(a), true })
		}
		for v := range g.N {
			checkListIsNew(t, func() []int {
				d, _ := impl.OneAt(g, v, 5)
				return d
			})
		}
	}
}

// checkCombination checks that spoiling a result of combine spoils neither its arguments nor other results, and spoiling the arguments no result.
func checkCombination(t *testing.T, a []int, b []int, combine func([]int, []int) ([]int, bool)) {
	one, two := roomyList(a), roomyList(b)
	oneAll, twoAll := slices.Clone(one[:cap(one)]), slices.Clone(two[:cap(two)])
	call := func() []int {
		l, ok := combine(one, two)
		if !ok {
			t.Fatalf("the combination of %v and %v fails", a, b)
		}
		return l
	}
	checkListIsNew(t, call)
	if !slices.Equal(one[:cap(one)], oneAll) || !slices.Equal(two[:cap(two)], twoAll) {
		t.Fatalf("a result for %v and %v shares memory with them", a, b)
	}
	result := call()
	want := slices.Clone(result)
	spoilList(one)
	spoilList(two)
	if !slices.Equal(result, want) {
		t.Fatalf("a result for %v and %v shares memory with them", a, b)
	}
}
