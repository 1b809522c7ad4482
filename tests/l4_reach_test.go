package tests

import (
	"fmt"
	"math"
	"reflect"
	"slices"
	"strings"
	"testing"

	"loop.example/g00862/impl"
)

func step(from, by, to int) impl.Move {
	return impl.Move{From: from, By: by, To: to}
}

// unlabelled returns a graph with dummies only.
func unlabelled(start string, l ...impl.Transition) impl.STG {
	labels := slices.Repeat([]impl.Label{dummy()}, len(l))
	return impl.STG{Net: net(len(start), l...), Signals: inputs("s", 1), Labels: labels, Start: start}
}

func sameGraph(a, b impl.ReachabilityGraph) bool {
	return slices.Equal(a.Marks, b.Marks) && slices.Equal(a.Moves, b.Moves)
}

func isZeroGraph(r impl.ReachabilityGraph) bool {
	return sameGraph(r, impl.ReachabilityGraph{})
}

// rings returns a graph of independent rings with the given numbers of places, one token in the first place of each.
func rings(sizes ...int) impl.STG {
	start := ""
	var l []impl.Transition
	for _, size := range sizes {
		first := len(start)
		for i := range size {
			l = append(l, move([]int{first + i}, []int{first + (i+1)%size}))
		}
		start += "1" + strings.Repeat("0", size-1)
	}
	return unlabelled(start, l...)
}

// with returns s with further places, marked or not, and further transitions.
func with(s impl.STG, start string, l ...impl.Transition) impl.STG {
	return unlabelled(s.Start+start, append(slices.Clone(s.Net.Transitions), l...)...)
}

// ahead returns s with one marking more, which leads to its start.
func ahead(s impl.STG) impl.STG {
	var marked []int
	for p := range s.Net.Places {
		if s.Start[p] == '1' {
			marked = append(marked, p)
		}
	}
	longer := with(s, "1", move([]int{s.Net.Places}, marked))
	longer.Start = strings.Repeat("0", s.Net.Places) + "1"
	return longer
}

func TestExploreExamples(t *testing.T) {
	for _, c := range []struct {
		name string
		s    impl.STG
		want impl.ReachabilityGraph
	}{
		{"buffer", buffer(), impl.ReachabilityGraph{Marks: []string{"0001", "1000", "0100", "0010"}, Moves: []impl.Move{step(0, 0, 1), step(1, 1, 2), step(2, 2, 3), step(3, 3, 0)}}},
		{"no transitions", unlabelled("010"), impl.ReachabilityGraph{Marks: []string{"010"}}},
		{"nothing is enabled", unlabelled("001", move([]int{0, 2}, []int{1})), impl.ReachabilityGraph{Marks: []string{"001"}}},
		{"a transition that changes nothing", unlabelled("1", move([]int{0}, []int{0})), impl.ReachabilityGraph{Marks: []string{"1"}, Moves: []impl.Move{step(0, 0, 0)}}},
		{"equal transitions", unlabelled("10", move([]int{0}, []int{1}), move([]int{0}, []int{1})), impl.ReachabilityGraph{Marks: []string{"10", "01"}, Moves: []impl.Move{step(0, 0, 1), step(0, 1, 1)}}},
		{"two ways to one marking", unlabelled("1010", move([]int{0}, []int{1}), move([]int{2}, []int{3})),
			impl.ReachabilityGraph{Marks: []string{"1010", "0110", "1001", "0101"}, Moves: []impl.Move{step(0, 0, 1), step(0, 1, 2), step(1, 1, 3), step(2, 0, 3)}}},
		{"breadth first", unlabelled("10000", move([]int{1}, []int{2}), move([]int{0}, []int{1}), move([]int{0}, []int{3}), move([]int{3}, []int{4}), move([]int{2}, []int{4})),
			impl.ReachabilityGraph{Marks: []string{"10000", "01000", "00010", "00100", "00001"}, Moves: []impl.Move{step(0, 1, 1), step(0, 2, 2), step(1, 0, 3), step(2, 3, 4), step(3, 4, 4)}}},
		{"back to the start", unlabelled("110", move([]int{0, 1}, []int{2}), move([]int{2}, []int{0, 1})), impl.ReachabilityGraph{Marks: []string{"110", "001"}, Moves: []impl.Move{step(0, 0, 1), step(1, 1, 0)}}},
		{"unsafe at once", unlabelled("11", move([]int{0}, []int{1})), impl.ReachabilityGraph{}},
		{"unsafe later", unlabelled("1001", move([]int{0}, []int{1}), move([]int{1}, []int{2}), move([]int{2}, []int{3})), impl.ReachabilityGraph{}},
		{"unsafe beside a transition that fires", unlabelled("110", move([]int{0}, []int{2}), move([]int{0}, []int{1})), impl.ReachabilityGraph{}},
		{"unsafe where it cannot be reached", unlabelled("10", move([]int{0}, nil), move([]int{1}, []int{0})), impl.ReachabilityGraph{Marks: []string{"10", "00"}, Moves: []impl.Move{step(0, 0, 1)}}},
	} {
		if got, ok := impl.Explore(c.s); ok != (len(c.want.Marks) > 0) || !sameGraph(got, c.want) {
			t.Errorf("Explore, %s: %v %v", c.name, got, ok)
		}
	}
}

func TestUnsafeTraceExamples(t *testing.T) {
	for _, c := range []struct {
		name string
		s    impl.STG
		want []int
	}{
		{"safe", buffer(), nil},
		{"no transitions", unlabelled("11"), nil},
		{"at once", unlabelled("11", move([]int{0}, []int{1})), []int{0}},
		{"the first of two", unlabelled("111", move([]int{1}, []int{1}), move([]int{0}, []int{2}), move([]int{0}, []int{1})), []int{1}},
		{"later", unlabelled("1001", move([]int{2}, []int{3}), move([]int{0}, []int{1}), move([]int{1}, []int{2})), []int{1, 2, 0}},
		{"by the way that was found first", unlabelled("101001", move([]int{1, 3}, []int{5}), move([]int{2}, []int{3}), move([]int{0}, []int{1})), []int{1, 2, 0}},
		{"at the first of two markings", unlabelled("1001", move([]int{0}, []int{1}), move([]int{0}, []int{2}), move([]int{2}, []int{3}), move([]int{1}, []int{3})), []int{0, 3}},
		{"at the nearer marking", unlabelled("10001", move([]int{0}, []int{1}), move([]int{1}, []int{2}), move([]int{2}, []int{4}), move([]int{0}, []int{3}), move([]int{3}, []int{4})), []int{3, 4}},
		{"only where it cannot be reached", unlabelled("01", move([]int{0}, []int{1})), nil},
	} {
		if got, ok := impl.UnsafeTrace(c.s); ok != (len(c.want) > 0) || !slices.Equal(got, c.want) {
			t.Errorf("UnsafeTrace, %s: %v %v", c.name, got, ok)
		}
	}
}

// ruleFire is the document's firing rule on bytes.
func ruleFire(mark string, t impl.Transition) (next string, isEnabled, isSafe bool) {
	bytes := []byte(mark)
	for _, p := range t.Pre {
		if bytes[p] != '1' {
			return "", false, false
		}
		bytes[p] = '0'
	}
	for _, p := range t.Post {
		if bytes[p] == '1' {
			return "", true, false
		}
		bytes[p] = '1'
	}
	return string(bytes), true, true
}

// ruleExplore explores s by the document's rules; unsafe is the trace to the first refusal, if it stops at one.
func ruleExplore(s impl.STG) (r impl.ReachabilityGraph, unsafe []int, ok bool) {
	r.Marks = []string{s.Start}
	ways := [][]int{nil}
	for k := 0; k < len(r.Marks); k++ {
		for by, tr := range s.Net.Transitions {
			next, isEnabled, isSafe := ruleFire(r.Marks[k], tr)
			if !isEnabled {
				continue
			}
			way := append(slices.Clone(ways[k]), by)
			if !isSafe {
				return impl.ReachabilityGraph{}, way, false
			}
			if !slices.Contains(r.Marks, next) {
				if len(r.Marks) == impl.MaxStates {
					return impl.ReachabilityGraph{}, nil, false
				}
				r.Marks = append(r.Marks, next)
				ways = append(ways, way)
			}
			r.Moves = append(r.Moves, step(k, by, slices.Index(r.Marks, next)))
		}
	}
	return r, nil, true
}

// someNetGraph returns a graph with a random net, most of whose transitions keep the number of tokens.
func someNetGraph(x *numbers) impl.STG {
	places := 3 + x.below(6)
	list := func(size int) []int {
		l := make([]int, size)
		for i := range l {
			l[i] = x.below(places)
		}
		slices.Sort(l)
		return slices.Compact(l)
	}
	var l []impl.Transition
	for range x.below(10) {
		size := 1 + x.below(5)/3
		l = append(l, move(list(size), list(max(0, size+[]int{-1, 0, 0, 0, 0, 1}[x.below(6)]))))
	}
	return unlabelled(markOf(places, 1<<x.below(places)|1<<x.below(places)), l...)
}

// TestExploreByRules checks promise 4 on random nets, safe and unsafe.
func TestExploreByRules(t *testing.T) {
	x := numbers(11)
	large, unsafe, long := 0, 0, 0
	for range 10000 {
		s := someNetGraph(&x)
		want, trace, safe := ruleExplore(s)
		got, ok := impl.Explore(s)
		if ok != safe || !sameGraph(got, want) {
			t.Errorf("Explore of %v: %v %v, not %v %v", s, got, ok, want, safe)
		}
		if l, ok := impl.UnsafeTrace(s); ok != (len(trace) > 0) || !slices.Equal(l, trace) {
			t.Errorf("UnsafeTrace of %v: %v %v, not %v", s, l, ok, trace)
		}
		if !safe {
			unsafe++
			checkWitness(t, s, trace)
		} else if checkReached(t, s, got); len(got.Marks) > 5 {
			large++
		}
		if len(trace) > 3 {
			long++
		}
	}
	if large < 100 || unsafe < 1000 || long < 50 {
		t.Errorf("only %d graphs with several markings, %d unsafe ones, %d long traces", large, unsafe, long)
	}
}

// checkWitness checks that trace ends with an enabled transition that Fire refuses.
func checkWitness(t *testing.T, s impl.STG, trace []int) {
	t.Helper()
	last := len(trace) - 1
	mark, fired, ok := impl.FireSequence(s.Net, s.Start, trace)
	enabled, _ := impl.Enabled(s.Net, mark)
	if ok || fired != last || !slices.Contains(enabled, trace[last]) {
		t.Errorf("%v is no witness for %v", trace, s)
	}
}

// checkReached checks promise 4: r has the reachable markings, once each, with a firing sequence for each, and no other.
func checkReached(t *testing.T, s impl.STG, r impl.ReachabilityGraph) {
	t.Helper()
	reachable := map[string]bool{}
	var visit func(mark string)
	visit = func(mark string) {
		if reachable[mark] {
			return
		}
		reachable[mark] = true
		for by := range s.Net.Transitions {
			if next, ok := impl.Fire(s.Net, mark, by); ok {
				visit(next)
			}
		}
	}
	visit(s.Start)
	if len(reachable) != len(r.Marks) {
		t.Errorf("%d markings of %v, not %d", len(r.Marks), s, len(reachable))
	}
	for k, mark := range r.Marks {
		if got, ok := impl.MarkingIndex(r, mark); !ok || got != k || !reachable[mark] {
			t.Errorf("MarkingIndex %s of %v: %d %v", mark, s, got, ok)
		}
		l, ok := impl.ShortestFiringSequence(r, k)
		if got, _, fires := impl.FireSequence(s.Net, s.Start, l); !ok || !fires || got != mark {
			t.Errorf("ShortestFiringSequence %d of %v: %v %v leads to %s", k, s, l, ok, got)
		}
	}
	for k, m := range r.Moves {
		if next, ok := impl.Fire(s.Net, r.Marks[m.From], m.By); !ok || next != r.Marks[m.To] {
			t.Errorf("move %d of %v: %v", k, s, m)
		}
	}
}

// TestMarkingLimit checks that 300 markings are met exactly and 301 are too many.
func TestMarkingLimit(t *testing.T) {
	most := rings(3, 4, 5, 5)
	want, _, safe := ruleExplore(most)
	if !safe || len(want.Marks) != impl.MaxStates {
		t.Fatalf("%d markings", len(want.Marks))
	}
	got, ok := impl.Explore(most)
	if !ok || !sameGraph(got, want) {
		t.Errorf("Explore of 300 markings: %d %v", len(got.Marks), ok)
	}
	checkReached(t, most, got)
	checkGraph(t, most, got)
	for name, s := range map[string]impl.STG{
		"301": ahead(most), "301, the last of them dead": with(most, "0", move([]int{2, 6, 11, 16}, []int{17})),
		"4096": rings(2, 2, 2, 2, 2, 2, 2, 2, 2, 2, 2, 2), "320": rings(4, 4, 4, 5),
	} {
		if got, ok := impl.Explore(s); ok || !isZeroGraph(got) {
			t.Errorf("Explore of %s markings: %d %v", name, len(got.Marks), ok)
		}
		if l, ok := impl.UnsafeTrace(s); ok || len(l) != 0 {
			t.Errorf("UnsafeTrace of %s markings: %v %v", name, l, ok)
		}
	}
}

// TestUnsafeTraceLimit has a refusal at the last of 300 markings.
func TestUnsafeTraceLimit(t *testing.T) {
	most := rings(3, 4, 5, 5)
	last := []int{2, 6, 11, 16}
	refused, further := move(last, []int{17}), move(last, []int{18})
	for _, c := range []struct {
		name string
		s    impl.STG
		ok   bool
	}{
		{"300 markings", with(most, "10", refused), true},
		{"a further marking behind the refusal", with(most, "10", refused, further), true},
		{"a further marking ahead of the refusal", with(most, "10", further, refused), false},
		{"301 markings", ahead(with(most, "10", refused)), false},
	} {
		_, want, _ := ruleExplore(c.s)
		if (len(want) == 14) != c.ok {
			t.Fatalf("%s: %v", c.name, want)
		}
		if got, ok := impl.UnsafeTrace(c.s); ok != c.ok || !slices.Equal(got, want) {
			t.Errorf("UnsafeTrace, %s: %v %v, not %v", c.name, got, ok, want)
		}
		if got, ok := impl.Explore(c.s); ok || !isZeroGraph(got) {
			t.Errorf("Explore, %s: %d %v", c.name, len(got.Marks), ok)
		}
	}
	early := with(rings(2, 2, 2, 2, 2, 2, 2, 2, 2, 2), "1", move([]int{0}, []int{20}))
	if got, ok := impl.UnsafeTrace(early); !ok || !slices.Equal(got, []int{20}) {
		t.Errorf("UnsafeTrace, a refusal ahead of 1024 markings: %v %v", got, ok)
	}
}

// TestManyMoves checks that Explore may return more than 4000 moves, and that the graph is not valid then.
func TestManyMoves(t *testing.T) {
	for loops := range 9 {
		s := with(rings(2, 2, 2, 2, 2, 2, 2, 2), "1", slices.Repeat([]impl.Transition{move([]int{16}, []int{16})}, loops)...)
		want, _, _ := ruleExplore(s)
		got, ok := impl.Explore(s)
		if !ok || !sameGraph(got, want) || len(got.Moves) != 256*(8+loops) {
			t.Errorf("Explore of %d moves: %d %v", 256*(8+loops), len(got.Moves), ok)
		}
		if loops == 7 {
			checkGraph(t, s, got)
		} else if loops == 8 {
			checkInvalidGraph(t, s, got)
		}
	}
}

// reaches returns, for all pairs of markings, whether the second can be reached from the first.
func reaches(r impl.ReachabilityGraph) [][]bool {
	l := make([][]bool, len(r.Marks))
	for i := range l {
		l[i] = make([]bool, len(r.Marks))
		l[i][i] = true
	}
	for _, m := range r.Moves {
		l[m.From][m.To] = true
	}
	for k := range l {
		for i := range l {
			for j := range l {
				l[i][j] = l[i][j] || l[i][k] && l[k][j]
			}
		}
	}
	return l
}

// checkGraph compares all that is said of a valid graph, but for its paths, with the document's rules.
func checkGraph(t *testing.T, s impl.STG, r impl.ReachabilityGraph) {
	t.Helper()
	closure := reaches(r)
	var deadlocks, homes, dead []int
	for k, mark := range r.Marks {
		var from []impl.Move
		for _, m := range r.Moves {
			if m.From == k {
				from = append(from, m)
			}
		}
		if got, ok := impl.MovesFrom(r, k); !ok || !slices.Equal(got, from) {
			t.Errorf("MovesFrom %d of %v: %v %v", k, r, got, ok)
		}
		if got, ok := impl.MarkingIndex(r, mark); !ok || got != k {
			t.Errorf("MarkingIndex %q of %v: %v %v", mark, r, got, ok)
		}
		if len(from) == 0 {
			deadlocks = append(deadlocks, k)
		}
		if !slices.ContainsFunc(closure, func(l []bool) bool { return !l[k] }) {
			homes = append(homes, k)
		}
	}
	for i := range s.Net.Transitions {
		if !slices.ContainsFunc(r.Moves, func(m impl.Move) bool { return m.By == i }) {
			dead = append(dead, i)
		}
	}
	if got, ok := impl.Deadlocks(r); !ok || !slices.Equal(got, deadlocks) {
		t.Errorf("Deadlocks of %v: %v %v, not %v", r, got, ok, deadlocks)
	}
	if got, ok := impl.HomeStates(r); !ok || !slices.Equal(got, homes) {
		t.Errorf("HomeStates of %v: %v %v, not %v", r, got, ok, homes)
	}
	if got, ok := impl.DeadTransitions(s, r); !ok || !slices.Equal(got, dead) {
		t.Errorf("DeadTransitions of %v: %v %v, not %v", r, got, ok, dead)
	}
}

// rulePaths returns all paths of the given number of moves from marking 0, as indices of moves from the last to the first.
func rulePaths(r impl.ReachabilityGraph, steps int) [][]int {
	if steps == 0 {
		return [][]int{nil}
	}
	var l [][]int
	for _, path := range rulePaths(r, steps-1) {
		at := endOf(r, path)
		for i, m := range r.Moves {
			if m.From == at {
				l = append(l, append([]int{i}, path...))
			}
		}
	}
	return l
}

func endOf(r impl.ReachabilityGraph, path []int) int {
	if len(path) == 0 {
		return 0
	}
	return r.Moves[path[0]].To
}

// checkPaths compares the paths of a small valid graph with all of them.
func checkPaths(t *testing.T, r impl.ReachabilityGraph) {
	t.Helper()
	shortest := make([][]int, len(r.Marks))
	isReached := make([]bool, len(r.Marks))
	for steps := range len(r.Marks) + 1 {
		paths := rulePaths(r, steps)
		if got, ok := impl.CountPaths(r, steps); !ok || got != len(paths) {
			t.Errorf("CountPaths %d of %v: %d %v, not %d", steps, r, got, ok, len(paths))
		}
		slices.SortFunc(paths, slices.Compare)
		for _, path := range paths {
			if at := endOf(r, path); !isReached[at] {
				isReached[at], shortest[at] = true, path
			}
		}
	}
	for k, path := range shortest {
		var want []int
		for _, i := range path {
			want = append([]int{r.Moves[i].By}, want...)
		}
		if got, ok := impl.ShortestFiringSequence(r, k); ok != isReached[k] || !slices.Equal(got, want) {
			t.Errorf("ShortestFiringSequence %d of %v: %v %v, not %v", k, r, got, ok, want)
		}
	}
}

// someReachability returns a valid graph, not of any net: its moves are in no order and its markings are any strings.
func someReachability(x *numbers) impl.ReachabilityGraph {
	marks := []string{"10", "", "01", "\xff", "1\x00", "x"}
	r := impl.ReachabilityGraph{Marks: slices.Clone(marks[:1+x.below(6)])}
	for range x.below(9) {
		r.Moves = append(r.Moves, step(x.below(len(r.Marks)), x.below(6), x.below(len(r.Marks))))
	}
	return r
}

func TestSomeReachability(t *testing.T) {
	x := numbers(12)
	s := rings(5)
	for range 2000 {
		r := someReachability(&x)
		checkGraph(t, s, r)
		checkPaths(t, r)
	}
	for range 300 {
		s := someNetGraph(&x)
		if r, ok := impl.Explore(s); ok && len(r.Moves) < 9 {
			checkGraph(t, s, r)
			checkPaths(t, r)
		}
	}
}

func graph(marks int, moves ...impl.Move) impl.ReachabilityGraph {
	r := impl.ReachabilityGraph{Moves: moves}
	for k := range marks {
		r.Marks = append(r.Marks, fmt.Sprint(k))
	}
	return r
}

func TestMarkingIndex(t *testing.T) {
	r, _ := impl.Explore(buffer())
	for k, mark := range []string{"0001", "1000", "0100", "0010"} {
		if got, ok := impl.MarkingIndex(r, mark); got != k || !ok {
			t.Errorf("MarkingIndex %s: %d %v", mark, got, ok)
		}
	}
	for _, mark := range []string{"", "0000", "1001", "1", "00010", "0001 ", "000"} {
		if got, ok := impl.MarkingIndex(r, mark); got != 0 || ok {
			t.Errorf("MarkingIndex %q: %d %v", mark, got, ok)
		}
	}
}

func TestMovesFrom(t *testing.T) {
	r := graph(4, step(2, 0, 1), step(0, 1, 1), step(2, 0, 1), step(3, 3, 3), step(2, 5, 0))
	for k, want := range [][]impl.Move{{step(0, 1, 1)}, nil, {step(2, 0, 1), step(2, 0, 1), step(2, 5, 0)}, {step(3, 3, 3)}} {
		if got, ok := impl.MovesFrom(r, k); !ok || !slices.Equal(got, want) {
			t.Errorf("MovesFrom %d: %v %v", k, got, ok)
		}
	}
}

func TestShortestFiringSequence(t *testing.T) {
	square := graph(4, step(2, 1, 3), step(1, 0, 3), step(0, 0, 1), step(0, 1, 2))
	chain := graph(impl.MaxStates)
	for k := range impl.MaxStates - 1 {
		chain.Moves = append(chain.Moves, step(k, k%24, k+1))
	}
	var long []int
	for k := range impl.MaxStates - 1 {
		long = append(long, k%24)
	}
	for _, c := range []struct {
		name string
		r    impl.ReachabilityGraph
		k    int
		want []int
		ok   bool
	}{
		{"to itself", square, 0, nil, true},
		{"to itself past a loop", graph(1, step(0, 0, 0)), 0, nil, true},
		{"the last move decides", square, 3, []int{1, 1}, true},
		{"the last but one decides", graph(5, step(0, 9, 2), step(0, 1, 1), step(1, 2, 3), step(2, 3, 3), step(3, 4, 4)), 4, []int{1, 2, 4}, true},
		{"the least index, not the least transition", graph(2, step(0, 5, 1), step(0, 3, 1)), 1, []int{5}, true},
		{"a shorter path with later moves", graph(3, step(0, 0, 1), step(1, 1, 2), step(0, 2, 2)), 2, []int{2}, true},
		{"a longer path ends with the first move", graph(4, step(1, 0, 3), step(0, 1, 2), step(2, 2, 1), step(2, 3, 3)), 3, []int{1, 3}, true},
		{"moves from what cannot be reached", graph(4, step(3, 0, 1), step(0, 1, 1)), 1, []int{1}, true},
		{"no path", graph(3, step(1, 0, 2), step(1, 0, 0)), 2, nil, false},
		{"no moves", graph(2), 1, nil, false},
		{"the longest path", chain, impl.MaxStates - 1, long, true},
	} {
		if got, ok := impl.ShortestFiringSequence(c.r, c.k); ok != c.ok || !slices.Equal(got, c.want) {
			t.Errorf("ShortestFiringSequence, %s: %v %v", c.name, got, ok)
		}
	}
}

func TestDeadlocksAndHomes(t *testing.T) {
	for _, c := range []struct {
		name             string
		r                impl.ReachabilityGraph
		deadlocks, homes []int
	}{
		{"none, one cycle", graph(3, step(0, 0, 1), step(1, 1, 2), step(2, 2, 0)), nil, []int{0, 1, 2}},
		{"one deadlock", graph(3, step(0, 0, 1), step(1, 1, 0), step(0, 2, 2)), []int{2}, []int{2}},
		{"two deadlocks", graph(4, step(0, 0, 3), step(0, 1, 1), step(2, 0, 0)), []int{1, 3}, nil},
		{"a loop is no deadlock", graph(2, step(0, 0, 1), step(1, 1, 1)), nil, []int{1}},
		{"the start alone", graph(1), []int{0}, []int{0}},
		{"a cycle at the end", graph(3, step(0, 0, 1), step(1, 1, 2), step(2, 2, 1)), nil, []int{1, 2}},
		{"two cycles at the end", graph(3, step(0, 0, 1), step(0, 0, 2), step(1, 1, 1), step(2, 2, 2)), nil, nil},
		{"a marking that cannot be reached", graph(3, step(0, 0, 1), step(1, 1, 0)), []int{2}, nil},
		{"one from which all can be reached", graph(3, step(0, 0, 1), step(1, 1, 0), step(2, 1, 0)), nil, []int{0, 1}},
		{"no moves", graph(2), []int{0, 1}, nil},
	} {
		if got, ok := impl.Deadlocks(c.r); !ok || !slices.Equal(got, c.deadlocks) {
			t.Errorf("Deadlocks, %s: %v %v", c.name, got, ok)
		}
		if got, ok := impl.HomeStates(c.r); !ok || !slices.Equal(got, c.homes) {
			t.Errorf("HomeStates, %s: %v %v", c.name, got, ok)
		}
	}
}

func TestDeadTransitions(t *testing.T) {
	never := unlabelled("100", move([]int{0, 1}, []int{2}), move([]int{0}, []int{1}), move([]int{2}, nil))
	r, ok := impl.Explore(never)
	if got, okToo := impl.DeadTransitions(never, r); !ok || !okToo || !slices.Equal(got, []int{0, 2}) {
		t.Errorf("DeadTransitions: %v %v", got, okToo)
	}
	r, _ = impl.Explore(buffer())
	for _, c := range []struct {
		name string
		s    impl.STG
		r    impl.ReachabilityGraph
		want []int
	}{
		{"all fire", buffer(), r, nil},
		{"no transitions", unlabelled("1"), r, nil},
		{"no moves", buffer(), graph(1), []int{0, 1, 2, 3}},
		{"moves by transitions that the graph has not", buffer(), graph(1, step(0, 23, 0), step(0, 4, 0), step(0, 2, 0)), []int{0, 1, 3}},
	} {
		if got, ok := impl.DeadTransitions(c.s, c.r); !ok || !slices.Equal(got, c.want) {
			t.Errorf("DeadTransitions, %s: %v %v", c.name, got, ok)
		}
	}
}

// layers returns a chain of layers with the given numbers of parallel moves between them.
func layers(widths ...int) impl.ReachabilityGraph {
	r := graph(len(widths) + 1)
	for k, width := range widths {
		r.Moves = append(r.Moves, slices.Repeat([]impl.Move{step(k, 0, k+1)}, width)...)
	}
	return r
}

func TestCountPaths(t *testing.T) {
	million := layers(10, 10, 10, 10, 10, 10)
	more := layers(10, 10, 10, 10, 10, 10)
	for k := range 6 {
		more.Marks = append(more.Marks, fmt.Sprint("m", k))
		more.Moves = append(more.Moves, step([]int{0, 7, 8, 9, 10, 11}[k], 0, 7+k))
	}
	loops := func(count int) impl.ReachabilityGraph {
		return graph(1, slices.Repeat([]impl.Move{step(0, 0, 0)}, count)...)
	}
	wide := slices.Repeat([]int{256}, 8)
	for _, c := range []struct {
		name  string
		r     impl.ReachabilityGraph
		steps int
		want  int
		ok    bool
	}{
		{"no steps", million, 0, 1, true},
		{"a part", million, 3, 1000, true},
		{"the limit", million, 6, 1000000, true},
		{"one more than the limit, at two markings", more, 6, 0, false},
		{"below the limit, at two markings", more, 5, 100001, true},
		{"behind the last layer", million, 7, 0, true},
		{"too many on the way, then none", layers(2000, 2000), 3, 0, true},
		{"too many on the way", layers(2000, 2000), 2, 0, false},
		{"too many on the way, then one", graph(4, append(layers(1999, 1999).Moves, step(0, 1, 3), step(3, 0, 3))...), 3, 1, true},
		{"most steps", loops(3), 12, 531441, true},
		{"one of a loop", loops(1), 12, 1, true},
		{"beyond 64 bits", loops(4000), 12, 0, false},
		{"a multiple of 2 to the 64", layers(wide...), 8, 0, false},
		{"a multiple of 2 to the 64 on the way", layers(wide...), 9, 0, true},
		{"only from marking 0", graph(3, step(1, 0, 2), step(2, 0, 1)), 2, 0, true},
		{"the limit by one layer", layers(1000, 1000), 2, 1000000, true},
		{"above the limit by one layer", layers(1000, 1001), 2, 0, false},
		{"too many steps", loops(1), 13, 0, false},
		{"a negative number of steps", loops(1), -1, 0, false},
		{"the least number of steps", loops(1), math.MinInt, 0, false},
		{"the greatest number of steps", loops(1), math.MaxInt, 0, false},
	} {
		if got, ok := impl.CountPaths(c.r, c.steps); got != c.want || ok != c.ok {
			t.Errorf("CountPaths, %s: %d %v", c.name, got, ok)
		}
	}
}

func manyMoves(count int) []impl.Move {
	return slices.Repeat([]impl.Move{step(0, 0, 0)}, count)
}

// TestGraphLimits checks that a graph is valid where it meets the limits exactly.
func TestGraphLimits(t *testing.T) {
	odd := graph(5, step(0, 0, 1))
	odd.Marks = []string{"", "\xfe", "\xff", "\ufffd", strings.Repeat("\xff", 10000)}
	for name, r := range map[string]impl.ReachabilityGraph{
		"one marking": graph(1), "all markings": graph(impl.MaxStates, step(impl.MaxStates-1, 0, impl.MaxStates-1)), "any strings": odd,
		"all moves": graph(1, manyMoves(4000)...), "the last transition": graph(1, step(0, impl.MaxTransitions-1, 0)),
		"all markings and moves": graph(impl.MaxStates, manyMoves(4000)...),
	} {
		if got, ok := impl.MarkingIndex(r, r.Marks[len(r.Marks)-1]); !ok || got != len(r.Marks)-1 {
			t.Errorf("MarkingIndex, %s: %v %v", name, got, ok)
		}
		checkGraph(t, buffer(), r)
	}
}

func invalidGraphs() []impl.ReachabilityGraph {
	twice := graph(3, step(0, 0, 1))
	twice.Marks[2] = twice.Marks[0]
	full := graph(impl.MaxStates)
	full.Marks[impl.MaxStates-1] = full.Marks[impl.MaxStates-2]
	empty := graph(2)
	empty.Marks = []string{"", ""}
	l := []impl.ReachabilityGraph{
		{}, {Marks: []string{}}, {Moves: []impl.Move{step(0, 0, 0)}}, graph(impl.MaxStates + 1), graph(10000), twice, full, empty,
		graph(1, manyMoves(4001)...), graph(2, append(manyMoves(4000), step(0, 0, 1))...),
	}
	for _, bad := range []impl.Move{
		step(-1, 0, 0), step(2, 0, 0), step(0, 0, -1), step(0, 0, 2), step(0, -1, 0), step(0, impl.MaxTransitions, 0),
		step(math.MinInt, 0, 0), step(math.MaxInt, 0, 0), step(0, 0, math.MinInt), step(0, 0, math.MaxInt), step(0, math.MinInt, 0), step(0, math.MaxInt, 0),
	} {
		l = append(l, graph(2, bad), graph(2, step(0, 0, 1), bad), graph(2, bad, step(0, 0, 1)))
	}
	return l
}

// checkInvalidGraph checks that every result for an invalid graph is zero.
func checkInvalidGraph(t *testing.T, s impl.STG, r impl.ReachabilityGraph) {
	t.Helper()
	for _, mark := range append([]string{"", "0"}, r.Marks...) {
		if got, ok := impl.MarkingIndex(r, mark); got != 0 || ok {
			t.Errorf("MarkingIndex of %v: %d %v", r, got, ok)
		}
	}
	for k := range 3 {
		if got, ok := impl.MovesFrom(r, k); len(got) != 0 || ok {
			t.Errorf("MovesFrom %d of %v: %v %v", k, r, got, ok)
		}
		if got, ok := impl.ShortestFiringSequence(r, k); len(got) != 0 || ok {
			t.Errorf("ShortestFiringSequence %d of %v: %v %v", k, r, got, ok)
		}
		if got, ok := impl.CountPaths(r, k); got != 0 || ok {
			t.Errorf("CountPaths %d of %v: %v %v", k, r, got, ok)
		}
	}
	if got, ok := impl.Deadlocks(r); len(got) != 0 || ok {
		t.Errorf("Deadlocks of %v: %v %v", r, got, ok)
	}
	if got, ok := impl.HomeStates(r); len(got) != 0 || ok {
		t.Errorf("HomeStates of %v: %v %v", r, got, ok)
	}
	if got, ok := impl.DeadTransitions(s, r); len(got) != 0 || ok {
		t.Errorf("DeadTransitions of %v: %v %v", r, got, ok)
	}
}

func TestInvalidGraphs(t *testing.T) {
	for _, r := range invalidGraphs() {
		checkInvalidGraph(t, buffer(), r)
	}
}

func TestInvalidMarkingNumbers(t *testing.T) {
	r, _ := impl.Explore(buffer())
	for _, k := range []int{-1, 4, 5, impl.MaxStates, math.MinInt, math.MaxInt} {
		if got, ok := impl.MovesFrom(r, k); len(got) != 0 || ok {
			t.Errorf("MovesFrom %d: %v %v", k, got, ok)
		}
		if got, ok := impl.ShortestFiringSequence(r, k); len(got) != 0 || ok {
			t.Errorf("ShortestFiringSequence %d: %v %v", k, got, ok)
		}
	}
}

func TestExploreInvalid(t *testing.T) {
	for _, s := range invalidSTGs() {
		if got, ok := impl.Explore(s); ok || !isZeroGraph(got) {
			t.Errorf("Explore of %v: %v %v", s, got, ok)
		}
		if got, ok := impl.UnsafeTrace(s); len(got) != 0 || ok {
			t.Errorf("UnsafeTrace of %v: %v %v", s, got, ok)
		}
		if got, ok := impl.DeadTransitions(s, graph(1)); len(got) != 0 || ok {
			t.Errorf("DeadTransitions of %v: %v %v", s, got, ok)
		}
	}
	// An unsafe firing does not count where the graph is invalid for another reason.
	unnamed := unlabelled("11", move([]int{0}, []int{1}))
	unnamed.Signals[0].Name = ""
	if got, ok := impl.UnsafeTrace(unnamed); len(got) != 0 || ok {
		t.Errorf("UnsafeTrace of an invalid graph: %v %v", got, ok)
	}
}

// graphWithSpare returns r with guard values behind its lists.
func graphWithSpare(r impl.ReachabilityGraph) impl.ReachabilityGraph {
	marks := append(append(make([]string, 0, len(r.Marks)+1), r.Marks...), "guard")
	moves := append(append(make([]impl.Move, 0, len(r.Moves)+1), r.Moves...), step(guard, guard, guard))
	return impl.ReachabilityGraph{Marks: marks[:len(r.Marks)], Moves: moves[:len(r.Moves)]}
}

func wholeGraph(r impl.ReachabilityGraph) impl.ReachabilityGraph {
	return impl.ReachabilityGraph{Marks: slices.Clone(r.Marks[:cap(r.Marks)]), Moves: slices.Clone(r.Moves[:cap(r.Moves)])}
}

// checkReachCalls checks promise 29 for chapter 4.
func checkReachCalls(t *testing.T, s impl.STG, r impl.ReachabilityGraph, mark string, k int) {
	t.Helper()
	defer mustNotPanic(t, "a function of chapter 4")
	s, r = stgWithSpare(s), graphWithSpare(r)
	beforeS, beforeR := wholeSTG(s), wholeGraph(r)
	impl.Explore(s)
	impl.MarkingIndex(r, mark)
	impl.MovesFrom(r, k)
	impl.ShortestFiringSequence(r, k)
	impl.Deadlocks(r)
	impl.DeadTransitions(s, r)
	impl.HomeStates(r)
	impl.UnsafeTrace(s)
	impl.CountPaths(r, k)
	if !reflect.DeepEqual(wholeSTG(s), beforeS) || !reflect.DeepEqual(wholeGraph(r), beforeR) {
		t.Errorf("an argument has changed: %v %v", s, r)
	}
}

func TestReachNoPanicNoChange(t *testing.T) {
	odd := []int{0, 1, 2, 12, 13, 299, 300, -1, math.MaxInt, math.MinInt}
	graphs := append(invalidGraphs(), graph(1), graph(2, step(1, 0, 1)), graph(impl.MaxStates, manyMoves(4000)...))
	for i, s := range append(validSTGs(), invalidSTGs()...) {
		for _, r := range graphs {
			checkReachCalls(t, s, r, "guard", odd[i%len(odd)])
		}
	}
	for _, k := range odd {
		for _, r := range graphs {
			checkReachCalls(t, buffer(), r, "", k)
		}
	}
	x := numbers(13)
	for range 2000 {
		checkReachCalls(t, someNetGraph(&x), someReachability(&x), "x", x.below(15)-1)
	}
}

// TestReachNewMemory checks that no result shares memory with an argument or a later result.
func TestReachNewMemory(t *testing.T) {
	s := stgWithSpare(buffer())
	first, ok := impl.Explore(s)
	if !ok {
		t.Fatal("Explore")
	}
	r := graphWithSpare(first)
	clear(first.Marks[:cap(first.Marks)])
	clear(first.Moves[:cap(first.Moves)])
	before, beforeS := wholeGraph(r), wholeSTG(s)
	if again, ok := impl.Explore(s); !ok || !sameGraph(again, r) {
		t.Errorf("a result of Explore is kept: %v %v", again, ok)
	}
	for range 2 {
		moves, ok := impl.MovesFrom(r, 2)
		if !ok || !slices.Equal(moves, []impl.Move{step(2, 2, 3)}) {
			t.Errorf("a result of MovesFrom is kept: %v %v", moves, ok)
		}
		clear(moves[:cap(moves)])
		for name, f := range map[string]func() ([]int, bool){
			"ShortestFiringSequence": func() ([]int, bool) { l, ok := impl.ShortestFiringSequence(r, 3); return append(l, 3), ok },
			"HomeStates":             func() ([]int, bool) { return impl.HomeStates(r) },
			"Deadlocks":              func() ([]int, bool) { return impl.Deadlocks(graph(4)) },
			"DeadTransitions":        func() ([]int, bool) { return impl.DeadTransitions(s, graph(1)) },
		} {
			l, ok := f()
			if !ok || !slices.Equal(l, []int{0, 1, 2, 3}) {
				t.Errorf("%s: %v %v", name, l, ok)
			}
			overwriteInts(l)
		}
	}
	if !reflect.DeepEqual(wholeGraph(r), before) || !reflect.DeepEqual(wholeSTG(s), beforeS) {
		t.Error("a result shares memory with an argument")
	}
}
