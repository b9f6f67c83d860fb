package tests

import (
	"fmt"
	"slices"
	"testing"

	"loop.example/g00841/impl"
)

// classKey names a class of divisors of one graph.
type classKey [7]int

// classesOf returns a function that says which class a divisor of a valid graph is in, by the inverse of a matrix and without firing. The inverse has a common denominator.
func classesOf(g impl.Graph) func(d []int) classKey {
	m := impl.ReducedLaplacian(g, 0)
	trees := impl.Determinant(m)
	inverse := copyMatrix(m)
	for i := range m {
		for j := range m {
			replaced := copyMatrix(m)
			for row := range replaced {
				replaced[row][i] = 0
			}
			replaced[j][i] = 1
			inverse[i][j] = impl.Determinant(replaced)
		}
	}
	return func(d []int) classKey {
		key := classKey{impl.DegreeOf(d)}
		for i, row := range inverse {
			for j, x := range row {
				key[i+1] += x * d[j+1]
			}
			key[i+1] = ((key[i+1] % trees) + trees) % trees
		}
		return key
	}
}

// effectiveSlowly returns all lists of n ints that are not negative and have a given sum, in lexicographic order.
func effectiveSlowly(n int, degree int) [][]int {
	if n == 0 && degree == 0 {
		return [][]int{nil}
	}
	var all [][]int
	for first := 0; n > 0 && first <= degree; first++ {
		for _, rest := range effectiveSlowly(n-1, degree-first) {
			all = append(all, append([]int{first}, rest...))
		}
	}
	return all
}

// loweredSlowly returns a script minus its least element.
func loweredSlowly(s []int) []int {
	lowered := slices.Clone(s)
	for v := range lowered {
		lowered[v] -= slices.Min(s)
	}
	return lowered
}

// poorDivisors returns divisors with n vertices whose degrees are from -2 to 9, with small and with large numbers.
func poorDivisors(n int) [][]int {
	var all [][]int
	for degree := -2; degree <= 9; degree++ {
		for _, d := range append(listsOf(2, n, 2), listsOf(1, n, 10)...) {
			d[n-1] += degree - impl.DegreeOf(d)
			all = append(all, d)
		}
	}
	return slices.DeleteFunc(all, func(d []int) bool { return max(slices.Max(d), -slices.Min(d)) > 60 })
}

// eachDivisor calls check with valid divisors of every kind on many graphs.
func eachDivisor(check func(g impl.Graph, d []int)) {
	for _, g := range someGraphs() {
		for _, d := range append(divisorsOf(g.N), poorDivisors(g.N)...) {
			check(g, d)
		}
	}
	for k, g := range goodGraphs() {
		all := append(divisorsOf(g.N), poorDivisors(g.N)...)
		check(g, all[k%len(all)])
	}
	for _, g := range []impl.Graph{parallel(1), parallel(3), graphOf(3, 0, 1, 0, 1, 0, 2, 1, 2), graphOf(3, 0, 2, 1, 2), completeGraph(3)} {
		for _, d := range boxOf(g.N, -2, 4) {
			check(g, d)
		}
	}
}

// othersFor returns divisors of the same graph: some that scripts lead to from d, some of these with a chip moved, added or removed, and others.
func othersFor(g impl.Graph, d []int) [][]int {
	all := append(listsOf(2, g.N, 3), slices.Clone(d), make([]int, g.N))
	for k, s := range append(listsOf(3, g.N, 1), listsOf(2, g.N, 5)...) {
		after := fireSlowly(g, d, s)
		moved, added := slices.Clone(after), slices.Clone(after)
		moved[0]++
		moved[k%g.N]--
		added[k%g.N] += 2*(k%2) - 1
		all = append(all, after, moved, added)
	}
	return slices.DeleteFunc(all, func(l []int) bool { return max(slices.Max(l), -slices.Min(l)) > 60 })
}

// eachBadDivisor calls check with divisors that are not valid, of every kind.
func eachBadDivisor(check func(name string, g impl.Graph, d []int)) {
	for _, g := range someGraphs() {
		for name, d := range badLists(g.N, 60) {
			check(name, g, d)
			check(name+", all the same", g, slices.Repeat([]int{2}, len(d)+len(d)/g.N*g.N))
		}
	}
	for name, g := range badGraphs() {
		for _, n := range lengthsFor(g) {
			for _, x := range []int{0, 1, -1} {
				check(name, g, slices.Repeat([]int{x}, n))
			}
		}
	}
}

func TestClassConstants(t *testing.T) {
	if impl.MaxDegree != 7 {
		t.Errorf("MaxDegree = %d", impl.MaxDegree)
	}
}

// scriptCase is a pair of divisors with the script that leads from the first to the second, if there is one.
type scriptCase struct {
	g            impl.Graph
	a, b, script []int
}

func scriptCases() []scriptCase {
	fat := graphOf(3, 0, 1, 0, 1, 0, 2, 1, 2)
	path := graphOf(3, 0, 1, 1, 2)
	long := graphOf(6, 0, 1, 1, 2, 2, 3, 3, 4, 4, 5)
	return []scriptCase{
		{fat, []int{1, 1, 0}, []int{0, 0, 2}, []int{1, 1, 0}},
		{fat, []int{0, 0, 2}, []int{1, 1, 0}, []int{0, 0, 1}},
		{fat, []int{1, 1, 0}, []int{0, 1, 1}, nil},
		{fat, []int{1, 1, 0}, []int{0, 0, 3}, nil},
		{fat, []int{1, 1, 0}, []int{0, 0, 1}, nil},
		{fat, []int{5, 0, -5}, []int{0, 0, 0}, []int{3, 2, 0}},
		{fat, []int{0, 0, 0}, []int{5, 0, -5}, []int{0, 1, 3}},
		{fat, []int{5, 0, -5}, []int{5, 0, -5}, []int{0, 0, 0}},
		{fat, []int{60, 0, -60}, []int{-60, 0, 60}, []int{72, 48, 0}},
		{fat, []int{1, 0, -1}, []int{0, 0, 0}, nil},
		{graphOf(1), []int{60}, []int{60}, []int{0}},
		{graphOf(1), []int{-60}, []int{-60}, []int{0}},
		{graphOf(1), []int{0}, []int{1}, nil},
		{parallel(1), []int{60, -60}, []int{-60, 60}, []int{120, 0}},
		{parallel(1), []int{-60, 60}, []int{60, -60}, []int{0, 120}},
		{parallel(12), []int{12, 0}, []int{0, 12}, []int{1, 0}},
		{parallel(12), []int{0, 12}, []int{12, 0}, []int{0, 1}},
		{parallel(12), []int{11, 0}, []int{0, 11}, nil},
		{parallel(12), []int{60, -60}, []int{-60, 60}, []int{10, 0}},
		{path, []int{1, 0, 0}, []int{0, 1, 0}, []int{1, 0, 0}},
		{path, []int{1, 0, 0}, []int{0, 0, 1}, []int{2, 1, 0}},
		{path, []int{0, 1, 0}, []int{1, 0, 0}, []int{0, 1, 1}},
		{path, []int{0, 0, 1}, []int{0, 1, 0}, []int{0, 0, 1}},
		{path, []int{0, 1, 0}, []int{0, 1, 1}, nil},
		{long, []int{60, 60, 60, -60, -60, -60}, []int{-60, -60, -60, 60, 60, 60}, []int{1080, 960, 720, 360, 120, 0}},
		{completeGraph(4), []int{3, 0, 0, 0}, []int{0, 1, 1, 1}, []int{1, 0, 0, 0}},
		{completeGraph(4), []int{0, 2, 0, 2}, []int{2, 0, 2, 0}, []int{0, 1, 0, 1}},
		{completeGraph(4), []int{2, 0, 0, 0}, []int{0, 2, 0, 0}, nil},
		{completeGraph(4), []int{4, 0, 0, 0}, []int{0, 4, 0, 0}, []int{2, 0, 1, 1}},
	}
}

func TestScriptBetween(t *testing.T) {
	for _, c := range scriptCases() {
		if got, ok := impl.ScriptBetween(c.g, c.a, c.b); ok != (c.script != nil) || !slices.Equal(got, c.script) {
			t.Errorf("ScriptBetween(%v, %v, %v) = %v, %v, want %v", c.g, c.a, c.b, got, ok, c.script)
		}
	}
}

func TestAreEquivalent(t *testing.T) {
	for _, c := range scriptCases() {
		if got := impl.AreEquivalent(c.g, c.a, c.b); got != (c.script != nil) {
			t.Errorf("AreEquivalent(%v, %v, %v) = %v", c.g, c.a, c.b, got)
		}
		if impl.AreEquivalent(c.g, c.b, c.a) != (c.script != nil) || !impl.AreEquivalent(c.g, c.a, c.a) || !impl.AreEquivalent(c.g, c.b, c.b) {
			t.Errorf("AreEquivalent of %v and %v on %v does not hold in both directions", c.a, c.b, c.g)
		}
	}
}

// TestEquivalenceIsExact compares AreEquivalent and ScriptBetween with the solutions of the linear equations.
func TestEquivalenceIsExact(t *testing.T) {
	answers := map[bool]int{}
	eachDivisor(func(g impl.Graph, d []int) {
		for _, other := range othersFor(g, d) {
			want, joined := scriptSlowly(g, d, other, g.N-1)
			got, ok := impl.ScriptBetween(g, d, other)
			if ok != joined || impl.AreEquivalent(g, d, other) != joined {
				t.Fatalf("ScriptBetween(%v, %v, %v) = %v, %v, want %v", g, d, other, got, ok, joined)
			}
			if joined && !slices.Equal(got, loweredSlowly(want)) || !joined && len(got) != 0 {
				t.Fatalf("ScriptBetween(%v, %v, %v) = %v, want %v", g, d, other, got, want)
			}
			answers[joined]++
		}
	})
	if answers[true] < 5000 || answers[false] < 5000 {
		t.Errorf("%d pairs are equivalent and %d are not", answers[true], answers[false])
	}
}

// TestScriptsBetweenExtremes joins divisors with the greatest numbers of chips and debts, which takes the longest scripts.
func TestScriptsBetweenExtremes(t *testing.T) {
	joined := 0
	for _, g := range someGraphs() {
		for _, signs := range boxOf(g.N, -1, 1) {
			d := make([]int, g.N)
			for v, sign := range signs {
				d[v] = 60 * sign
			}
			other := impl.NegateDivisor(d)
			s, ok := impl.ScriptBetween(g, d, other)
			if _, want := scriptSlowly(g, d, other, 0); ok != want || impl.AreEquivalent(g, d, other) != want {
				t.Fatalf("ScriptBetween(%v, %v, %v) = %v, %v, want %v", g, d, other, s, ok, want)
			}
			if ok && (len(s) != g.N || slices.Min(s) != 0 || !slices.Equal(fireSlowly(g, d, s), other)) {
				t.Fatalf("ScriptBetween(%v, %v, %v) = %v", g, d, other, s)
			}
			if ok {
				joined++
			}
		}
	}
	if joined < 100 {
		t.Errorf("only %d pairs are equivalent", joined)
	}
}

func TestIsPrincipal(t *testing.T) {
	for _, c := range scriptCases() {
		difference, _ := impl.AddDivisors(c.a, impl.NegateDivisor(c.b))
		if max(slices.Max(difference), -slices.Min(difference)) > 60 {
			continue
		}
		if got := impl.IsPrincipal(c.g, difference); got != (c.script != nil) {
			t.Errorf("IsPrincipal(%v, %v) = %v", c.g, difference, got)
		}
	}
	answers := map[bool]int{}
	check := func(g impl.Graph, d []int) {
		_, want := scriptSlowly(g, d, make([]int, g.N), 0)
		if got := impl.IsPrincipal(g, d); got != want {
			t.Fatalf("IsPrincipal(%v, %v) = %v", g, d, got)
		}
		answers[want]++
	}
	eachDivisor(func(g impl.Graph, d []int) {
		check(g, d)
		for _, other := range othersFor(g, make([]int, g.N)) {
			check(g, other)
		}
	})
	if answers[true] < 5000 || answers[false] < 5000 {
		t.Errorf("%d divisors are principal and %d are not", answers[true], answers[false])
	}
}

// winCase is a divisor with the script that wins it, if there is one, and all effective divisors equivalent to it.
type winCase struct {
	g         impl.Graph
	d, script []int
	effective [][]int
}

func winCases() []winCase {
	fat := graphOf(3, 0, 1, 0, 1, 0, 2, 1, 2)
	path := graphOf(3, 0, 1, 1, 2)
	return []winCase{
		{fat, []int{1, 1, 0}, []int{0, 0, 0}, [][]int{{0, 0, 2}, {1, 1, 0}}},
		{fat, []int{0, 0, 2}, []int{0, 0, 1}, [][]int{{0, 0, 2}, {1, 1, 0}}},
		{fat, []int{5, 0, -5}, []int{3, 2, 0}, [][]int{{0, 0, 0}}},
		{fat, []int{0, 0, 0}, []int{0, 0, 0}, [][]int{{0, 0, 0}}},
		{fat, []int{1, 0, -1}, nil, nil}, {fat, []int{0, 0, -1}, nil, nil}, {fat, []int{-60, -60, -60}, nil, nil},
		{fat, []int{-2, 2, 0}, nil, nil}, {fat, []int{-1, 2, 0}, nil, nil}, {fat, []int{-1, 0, 2}, []int{0, 0, 1}, [][]int{{0, 1, 0}}},
		{graphOf(1), []int{0}, []int{0}, [][]int{{0}}}, {graphOf(1), []int{7}, []int{0}, [][]int{{7}}}, {graphOf(1), []int{-1}, nil, nil}, {graphOf(1), []int{-60}, nil, nil},
		{path, []int{-1, 0, 1}, []int{0, 1, 2}, [][]int{{0, 0, 0}}},
		{path, []int{60, -60, 2}, []int{58, 0, 2}, [][]int{{0, 0, 2}, {0, 1, 1}, {0, 2, 0}, {1, 0, 1}, {1, 1, 0}, {2, 0, 0}}},
		{path, []int{0, 0, -1}, nil, nil},
		{parallel(12), []int{-12, 12}, []int{0, 1}, [][]int{{0, 0}}}, {parallel(12), []int{-11, 11}, nil, nil}, {parallel(12), []int{-1, 8}, nil, nil},
		{parallel(2), []int{-1, 8}, []int{0, 4}, [][]int{{1, 6}, {3, 4}, {5, 2}, {7, 0}}},
		{parallel(2), []int{0, 7}, []int{0, 3}, [][]int{{0, 7}, {2, 5}, {4, 3}, {6, 1}}},
		{parallel(7), []int{0, 7}, []int{0, 1}, [][]int{{0, 7}, {7, 0}}}, {parallel(8), []int{0, 7}, []int{0, 0}, [][]int{{0, 7}}},
		{completeGraph(4), []int{3, 0, 0, 0}, []int{0, 0, 0, 0}, [][]int{{0, 1, 1, 1}, {3, 0, 0, 0}}},
		{completeGraph(4), []int{0, 0, 0, 3}, []int{0, 0, 0, 1}, [][]int{{0, 0, 0, 3}, {1, 1, 1, 0}}},
		{completeGraph(4), []int{-1, 0, 1, 2}, nil, nil},
	}
}

func TestIsWinnable(t *testing.T) {
	for _, c := range winCases() {
		if got := impl.IsWinnable(c.g, c.d); got != (c.script != nil) {
			t.Errorf("IsWinnable(%v, %v) = %v", c.g, c.d, got)
		}
	}
}

func TestWinningScript(t *testing.T) {
	for _, c := range winCases() {
		if got, ok := impl.WinningScript(c.g, c.d); ok != (c.script != nil) || !slices.Equal(got, c.script) {
			t.Errorf("WinningScript(%v, %v) = %v, %v, want %v", c.g, c.d, got, ok, c.script)
		}
	}
}

func TestEffectiveIn(t *testing.T) {
	for _, c := range winCases() {
		if got, ok := impl.EffectiveIn(c.g, c.d); !ok || !sameMatrix(got, c.effective) {
			t.Errorf("EffectiveIn(%v, %v) = %v, %v, want %v", c.g, c.d, got, ok, c.effective)
		}
		if got := impl.CountEffective(c.g, c.d); got != len(c.effective) {
			t.Errorf("CountEffective(%v, %v) = %d, want %d", c.g, c.d, got, len(c.effective))
		}
	}
}

// checkWin checks IsWinnable and WinningScript of a valid divisor.
func checkWin(t *testing.T, g impl.Graph, d []int, want bool) {
	s, ok := impl.WinningScript(g, d)
	if ok != want || impl.IsWinnable(g, d) != want {
		t.Fatalf("WinningScript(%v, %v) = %v, %v, want %v", g, d, s, ok, want)
	}
	if !ok {
		if len(s) != 0 {
			t.Fatalf("WinningScript(%v, %v) = %v, %v", g, d, s, ok)
		}
		return
	}
	if len(s) != g.N || slices.Min(s) != 0 {
		t.Fatalf("WinningScript(%v, %v) = %v", g, d, s)
	}
	if end := fireSlowly(g, d, s); slices.Min(end) < 0 || !reducedSlowly(g, end, 0) {
		t.Fatalf("WinningScript(%v, %v) = %v, which leads to %v", g, d, s, end)
	}
}

// TestWinningIsExact compares IsWinnable and WinningScript with a search through all effective divisors of the degree.
func TestWinningIsExact(t *testing.T) {
	answers := map[bool]int{}
	eachDivisor(func(g impl.Graph, d []int) {
		degree := impl.DegreeOf(d)
		// From a degree as great as the genus on, all divisors are winnable.
		want := degree >= impl.GenusOf(g)
		if !want && degree >= 0 {
			class := classesOf(g)
			key := class(d)
			want = slices.ContainsFunc(effectiveSlowly(g.N, degree), func(e []int) bool { return class(e) == key })
		}
		checkWin(t, g, d, want)
		if degree >= 0 {
			answers[want]++
		}
	})
	if answers[true] < 1000 || answers[false] < 100 {
		t.Errorf("%d divisors are winnable and %d are not", answers[true], answers[false])
	}
}

// TestGenusBorder checks that all divisors of a degree as great as the genus are winnable, and some of the degree below it are not.
func TestGenusBorder(t *testing.T) {
	for _, g := range someGraphs() {
		genus := impl.GenusOf(g)
		class := classesOf(g)
		won, classes := map[classKey]bool{}, map[classKey]bool{}
		for _, e := range effectiveSlowly(g.N, max(genus-1, 0)) {
			won[class(e)] = genus > 0
		}
		for _, d := range reducedDivisors(g, 0) {
			d[0] += genus
			checkWin(t, g, d, true)
			d[0]--
			checkWin(t, g, d, won[class(d)])
			classes[class(d)] = true
		}
		if len(classes) != impl.CountTrees(g) || genus > 0 && len(won) >= len(classes) {
			t.Errorf("%d of %d classes of degree %d on %v are winnable", len(won), len(classes), genus-1, g)
		}
	}
}

// TestEffectiveInIsExact compares EffectiveIn and CountEffective with all effective divisors of the degree.
func TestEffectiveInIsExact(t *testing.T) {
	lengths := map[int]int{}
	eachDivisor(func(g impl.Graph, d []int) {
		degree := impl.DegreeOf(d)
		got, ok := impl.EffectiveIn(g, d)
		if degree > 7 {
			if ok || len(got) != 0 || impl.CountEffective(g, d) != -1 {
				t.Fatalf("EffectiveIn(%v, %v) = %v, %v", g, d, got, ok)
			}
			lengths[-1]++
			return
		}
		class := classesOf(g)
		key := class(d)
		want := slices.DeleteFunc(effectiveSlowly(g.N, degree), func(e []int) bool { return class(e) != key })
		if !ok || !sameMatrix(got, want) || impl.CountEffective(g, d) != len(want) {
			t.Fatalf("EffectiveIn(%v, %v) = %v, %v, want %v", g, d, got, ok, want)
		}
		lengths[len(want)]++
	})
	if lengths[-1] < 500 || lengths[0] < 500 || lengths[1] < 50 || lengths[2] < 50 || len(lengths) < 20 {
		t.Errorf("the lengths of the lists occur so often: %v", lengths)
	}
}

// TestEffectiveInLists checks that the classes of each degree up to the greatest one share all effective divisors among each other, and that no higher degree has a list.
func TestEffectiveInLists(t *testing.T) {
	for _, g := range someGraphs() {
		if impl.CountTrees(g) > 30 {
			continue
		}
		for degree := -3; degree <= 7; degree++ {
			var all [][]int
			for _, d := range reducedDivisors(g, 0) {
				d[0] += degree
				list, ok := impl.EffectiveIn(g, d)
				if !ok || !slices.IsSortedFunc(list, slices.Compare[[]int]) {
					t.Fatalf("EffectiveIn(%v, %v) = %v, %v", g, d, list, ok)
				}
				all = append(all, list...)
			}
			slices.SortFunc(all, slices.Compare[[]int])
			if want := effectiveSlowly(g.N, degree); !sameMatrix(all, want) {
				t.Fatalf("the classes of degree %d on %v have %d effective divisors, not %d", degree, g, len(all), len(want))
			}
		}
		for _, degree := range []int{8, 9, 60} {
			for v := range g.N {
				d := make([]int, g.N)
				d[v] = degree
				if list, ok := impl.EffectiveIn(g, d); ok || len(list) != 0 || impl.CountEffective(g, d) != -1 {
					t.Errorf("EffectiveIn(%v, %v) = %v, %v", g, d, list, ok)
				}
			}
		}
	}
}

// TestDegreeLimit checks the greatest degree with a list and the one beyond it where single numbers of chips are much greater.
func TestDegreeLimit(t *testing.T) {
	for _, g := range someGraphs() {
		for v := range g.N {
			for w := range g.N {
				if v == w {
					continue
				}
				d := make([]int, g.N)
				d[v], d[w] = 60, -53
				list, ok := impl.EffectiveIn(g, d)
				if !ok || impl.CountEffective(g, d) != len(list) || impl.IsWinnable(g, d) != (len(list) > 0) {
					t.Errorf("EffectiveIn(%v, %v) = %v, %v", g, d, list, ok)
				}
				d[w]++
				if list, ok := impl.EffectiveIn(g, d); ok || len(list) != 0 || impl.CountEffective(g, d) != -1 {
					t.Errorf("EffectiveIn(%v, %v) = %v, %v", g, d, list, ok)
				}
			}
		}
		d := slices.Repeat([]int{60}, g.N)
		if list, ok := impl.EffectiveIn(g, d); ok || len(list) != 0 || impl.CountEffective(g, d) != -1 {
			t.Errorf("EffectiveIn(%v, %v) = %v, %v", g, d, list, ok)
		}
		d = slices.Repeat([]int{-60}, g.N)
		if list, ok := impl.EffectiveIn(g, d); !ok || len(list) != 0 || impl.CountEffective(g, d) != 0 {
			t.Errorf("EffectiveIn(%v, %v) = %v, %v", g, d, list, ok)
		}
	}
}

func TestRepresentativeOf(t *testing.T) {
	for _, c := range reducingCases() {
		want := c.reduced
		if c.q != 0 {
			continue
		}
		if got, ok := impl.RepresentativeOf(c.g, c.d); !ok || !slices.Equal(got, want) {
			t.Errorf("RepresentativeOf(%v, %v) = %v, %v, want %v", c.g, c.d, got, ok, want)
		}
	}
	eachDivisor(func(g impl.Graph, d []int) {
		got, ok := impl.RepresentativeOf(g, d)
		if !ok || len(got) != g.N || !reducedSlowly(g, got, 0) {
			t.Fatalf("RepresentativeOf(%v, %v) = %v, %v", g, d, got, ok)
		}
		if want, _ := impl.ReducedOf(g, d, 0); !slices.Equal(got, want) {
			t.Fatalf("RepresentativeOf(%v, %v) = %v, want %v", g, d, got, want)
		}
	})
}

// TestFiringKeepsTheClass checks that what a class has does not change when a script fires, and that divisors are equivalent exactly if they have the same representative.
func TestFiringKeepsTheClass(t *testing.T) {
	eachDivisor(func(g impl.Graph, d []int) {
		representative, _ := impl.RepresentativeOf(g, d)
		list, listed := impl.EffectiveIn(g, d)
		for _, s := range listsOf(2, g.N, 2) {
			after, ok := impl.FireScript(g, d, s)
			if !ok || !impl.DivisorOk(g, after) {
				continue
			}
			if !impl.AreEquivalent(g, d, after) || impl.IsWinnable(g, d) != impl.IsWinnable(g, after) || impl.IsPrincipal(g, d) != impl.IsPrincipal(g, after) {
				t.Fatalf("%v on %v is not as %v, from which %v leads there", after, g, d, s)
			}
			other, ok := impl.EffectiveIn(g, after)
			if ok != listed || !sameMatrix(list, other) {
				t.Fatalf("%v on %v has not the effective divisors of %v", after, g, d)
			}
		}
		for _, other := range othersFor(g, d) {
			end, _ := impl.RepresentativeOf(g, other)
			if slices.Equal(end, representative) != impl.AreEquivalent(g, d, other) {
				t.Fatalf("%v and %v on %v have the representatives %v and %v", d, other, g, representative, end)
			}
		}
	})
}

func TestClassRejects(t *testing.T) {
	check := func(name string, g impl.Graph, a []int, b []int) {
		if impl.AreEquivalent(g, a, b) {
			t.Errorf("%s: AreEquivalent(%v, %v, %v) = true", name, g, a, b)
		}
		if got, ok := impl.ScriptBetween(g, a, b); ok || len(got) != 0 {
			t.Errorf("%s: ScriptBetween(%v, %v, %v) = %v, %v", name, g, a, b, got, ok)
		}
	}
	eachBadDivisor(func(name string, g impl.Graph, d []int) {
		check(name, g, d, d)
		check(name, g, d, make([]int, len(d)))
		check(name, g, make([]int, len(d)), d)
		if impl.GraphOk(g) {
			check(name, g, d, make([]int, g.N))
			check(name, g, make([]int, g.N), d)
		}
		if impl.IsPrincipal(g, d) || impl.IsWinnable(g, d) {
			t.Errorf("%s: %v on %v is principal or winnable", name, d, g)
		}
		if got, ok := impl.WinningScript(g, d); ok || len(got) != 0 {
			t.Errorf("%s: WinningScript(%v, %v) = %v, %v", name, g, d, got, ok)
		}
		if got, ok := impl.EffectiveIn(g, d); ok || len(got) != 0 {
			t.Errorf("%s: EffectiveIn(%v, %v) = %v, %v", name, g, d, got, ok)
		}
		if got := impl.CountEffective(g, d); got != -1 {
			t.Errorf("%s: CountEffective(%v, %v) = %d", name, g, d, got)
		}
		if got, ok := impl.RepresentativeOf(g, d); ok || len(got) != 0 {
			t.Errorf("%s: RepresentativeOf(%v, %v) = %v, %v", name, g, d, got, ok)
		}
	})
}

// classAnswers returns the answers of all functions of the chapter, as text.
func classAnswers(g impl.Graph, a []int, b []int) string {
	script, scriptOk := impl.ScriptBetween(g, a, b)
	win, winOk := impl.WinningScript(g, a)
	list, listOk := impl.EffectiveIn(g, a)
	reduced, reduceOk := impl.RepresentativeOf(g, a)
	return fmt.Sprint(
		impl.AreEquivalent(g, a, b), script, scriptOk, impl.IsPrincipal(g, a), impl.IsWinnable(g, a), win, winOk,
		list, listOk, impl.CountEffective(g, a), reduced, reduceOk,
	)
}

// TestClassArgumentsAreKept checks that no function changes its arguments or the memory behind them, and that a second call answers the same.
func TestClassArgumentsAreKept(t *testing.T) {
	for _, g := range someGraphs() {
		for _, d := range append(divisorsOf(g.N), poorDivisors(g.N)...) {
			checkKept(t, g, d, d, classAnswers)
			checkKept(t, g, d, othersFor(g, d)[0], classAnswers)
		}
	}
	checkOddKept(t, classAnswers)
}

// TestClassResultsAreNew checks that results share no memory with arguments or with each other.
func TestClassResultsAreNew(t *testing.T) {
	for _, g := range someGraphs() {
		chips := make([]int, g.N)
		chips[g.N-1] = 7
		chips[0] += 7 - impl.DegreeOf(chips)
		full := slices.Repeat([]int{12}, g.N)
		for _, d := range [][]int{make([]int, g.N), chips, full} {
			checkCombination(t, d, d, func(a []int, b []int) ([]int, bool) { return impl.ScriptBetween(g, a, b) })
			checkCombination(t, d, fireSlowly(g, d, scriptOf(g.N, []int{0})), func(a []int, b []int) ([]int, bool) { return impl.ScriptBetween(g, a, b) })
			checkCombination(t, d, nil, func(a []int, b []int) ([]int, bool) { return impl.RepresentativeOf(g, a) })
			if impl.IsWinnable(g, d) {
				checkCombination(t, d, nil, func(a []int, b []int) ([]int, bool) { return impl.WinningScript(g, a) })
			}
		}
		for _, d := range [][]int{make([]int, g.N), chips} {
			argument := roomyList(d)
			whole := slices.Clone(argument[:cap(argument)])
			checkMatrixIsNew(t, func() [][]int {
				list, _ := impl.EffectiveIn(g, argument)
				return list
			})
			if !slices.Equal(argument[:cap(argument)], whole) {
				t.Fatalf("a result for %v on %v shares memory with it", d, g)
			}
		}
	}
}
