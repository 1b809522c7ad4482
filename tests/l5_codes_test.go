package tests

import (
	"fmt"
	"math"
	"math/bits"
	"reflect"
	"slices"
	"strings"
	"testing"

	"loop.example/g00862/impl"
)

const maxArcs = 4000

func arc(from int, l impl.Label, to int) impl.Arc {
	return impl.Arc{From: from, Sig: l.Sig, Up: l.Up, To: to}
}

func stateGraph(signals []impl.Signal, codes []string, l ...impl.Arc) impl.StateGraph {
	return impl.StateGraph{Signals: signals, Codes: codes, Arcs: l}
}

// bufferGraph is the state graph of the buffer, as the document gives it.
func bufferGraph() impl.StateGraph {
	return stateGraph(buffer().Signals, []string{"00", "10", "11", "01"}, arc(0, up(0), 1), arc(1, up(1), 2), arc(2, down(0), 3), arc(3, down(1), 0))
}

// withLabels returns s with the given labels and the signals s0, s1 and so on.
func withLabels(s impl.STG, signals int, labels ...impl.Label) impl.STG {
	s.Signals = inputs("s", signals)
	s.Labels = labels
	return s
}

// path returns a graph whose labels occur one after the other, once each.
func path(signals int, labels ...impl.Label) impl.STG {
	var l []impl.Transition
	for i := range labels {
		l = append(l, move([]int{i}, []int{i + 1}))
	}
	return withLabels(unlabelled("1"+strings.Repeat("0", len(labels)), l...), signals, labels...)
}

// cycle returns a graph whose labels occur one after the other, over and over.
func cycle(signals int, labels ...impl.Label) impl.STG {
	return withLabels(rings(len(labels)), signals, labels...)
}

// diamond returns a graph with two ways from its first to its last place, each of two transitions.
func diamond(signals int, labels ...impl.Label) impl.STG {
	s := unlabelled("1000", move([]int{0}, []int{1}), move([]int{1}, []int{3}), move([]int{0}, []int{2}), move([]int{2}, []int{3}))
	return withLabels(s, signals, labels...)
}

func sameStateGraph(a, b impl.StateGraph) bool {
	return slices.Equal(a.Signals, b.Signals) && slices.Equal(a.Codes, b.Codes) && slices.Equal(a.Arcs, b.Arcs)
}

func isZeroStateGraph(c impl.StateGraph) bool {
	return sameStateGraph(c, impl.StateGraph{})
}

// checkConsistent checks all that is said of an STG with a state graph, but for its signals and arcs.
func checkConsistent(t *testing.T, name string, s impl.STG, codes ...string) {
	t.Helper()
	c, ok := impl.BuildStateGraph(s)
	if !ok || !slices.Equal(c.Codes, codes) || !impl.IsValidStateGraph(c) {
		t.Errorf("BuildStateGraph, %s: %v %v", name, c, ok)
	}
	if got, ok := impl.InitialCode(s); !ok || got != codes[0] {
		t.Errorf("InitialCode, %s: %q %v", name, got, ok)
	}
	if got, ok := impl.InconsistentSignals(s); ok || len(got) != 0 {
		t.Errorf("InconsistentSignals, %s: %v %v", name, got, ok)
	}
}

func checkNoStateGraph(t *testing.T, name string, s impl.STG) {
	t.Helper()
	if got, ok := impl.BuildStateGraph(s); ok || !isZeroStateGraph(got) {
		t.Errorf("BuildStateGraph, %s: %v %v", name, got, ok)
	}
	if got, ok := impl.InitialCode(s); ok || got != "" {
		t.Errorf("InitialCode, %s: %q %v", name, got, ok)
	}
}

func checkInconsistent(t *testing.T, name string, s impl.STG, signals ...int) {
	t.Helper()
	checkNoStateGraph(t, name, s)
	if got, ok := impl.InconsistentSignals(s); !ok || !slices.Equal(got, signals) {
		t.Errorf("InconsistentSignals, %s: %v %v", name, got, ok)
	}
}

// checkUnexplored checks an STG that has neither a state graph nor inconsistent signals.
func checkUnexplored(t *testing.T, name string, s impl.STG) {
	t.Helper()
	checkNoStateGraph(t, name, s)
	if got, ok := impl.InconsistentSignals(s); ok || len(got) != 0 {
		t.Errorf("InconsistentSignals, %s: %v %v", name, got, ok)
	}
}

func TestBuildStateGraph(t *testing.T) {
	if got, ok := impl.BuildStateGraph(buffer()); !ok || !sameStateGraph(got, bufferGraph()) {
		t.Errorf("BuildStateGraph of the buffer: %v %v", got, ok)
	}
	signals := []impl.Signal{signal("x", impl.Internal), signal("never", impl.Output), signal("y", impl.Input)}
	choice := unlabelled("1000", move([]int{3}, []int{3}), move([]int{0}, []int{1}), move([]int{0}, []int{2}), move([]int{1}, []int{1}), move([]int{2}, []int{0}))
	choice.Signals, choice.Labels = signals, []impl.Label{up(1), down(0), up(2), dummy(), down(2)}
	want := stateGraph(signals, []string{"100", "000", "101"}, arc(0, down(0), 1), arc(0, up(2), 2), arc(1, dummy(), 1), arc(2, down(2), 0))
	if got, ok := impl.BuildStateGraph(choice); !ok || !sameStateGraph(got, want) {
		t.Errorf("BuildStateGraph of a choice: %v %v", got, ok)
	}
	twice := withLabels(unlabelled("10", move([]int{0}, []int{1}), move([]int{0}, []int{1}), move([]int{1}, []int{0})), 1, up(0), up(0), down(0))
	want = stateGraph(twice.Signals, []string{"0", "1"}, arc(0, up(0), 1), arc(0, up(0), 1), arc(1, down(0), 0))
	if got, ok := impl.BuildStateGraph(twice); !ok || !sameStateGraph(got, want) {
		t.Errorf("BuildStateGraph with equal arcs: %v %v", got, ok)
	}
}

func TestConsistentSTGs(t *testing.T) {
	checkConsistent(t, "no transitions", withLabels(unlabelled("01"), 3), "000")
	checkConsistent(t, "nothing fires", withLabels(unlabelled("01", move([]int{0}, []int{1})), 1, up(0)), "0")
	checkConsistent(t, "a signal without transitions", cycle(3, up(0), up(2), down(2), down(0)), "000", "100", "101", "100")
	checkConsistent(t, "a signal whose transitions are dead", withLabels(unlabelled("100", move([]int{0}, []int{1}), move([]int{2}, []int{0}), move([]int{2}, []int{0})), 2, up(0), up(1), down(1)), "00", "10")
	checkConsistent(t, "a dead transition in conflict with the others", withLabels(unlabelled("100", move([]int{0}, []int{1}), move([]int{0, 2}, []int{0, 2})), 1, up(0), up(0)), "0", "1")
	checkConsistent(t, "it falls first", cycle(1, down(0), up(0)), "1", "0")
	checkConsistent(t, "it falls late", path(2, up(0), dummy(), down(1)), "01", "11", "11", "10")
	checkConsistent(t, "it only falls", path(1, down(0)), "1", "0")
	checkConsistent(t, "silent arcs only", cycle(2, dummy(), dummy(), dummy()), "00", "00", "00")
	checkConsistent(t, "a silent loop", withLabels(unlabelled("1", move([]int{0}, []int{0})), 1, dummy()), "0")
	checkConsistent(t, "silent arcs between edges", cycle(1, dummy(), down(0), dummy(), up(0), dummy()), "1", "1", "0", "0", "1")
	checkConsistent(t, "two edges in either order", withLabels(unlabelled("1010", move([]int{0}, []int{1}), move([]int{2}, []int{3})), 2, down(0), up(1)), "10", "00", "11", "01")
	checkConsistent(t, "two ways with the same edges", diamond(2, up(0), down(1), down(1), up(0)), "01", "11", "00", "10")
	checkConsistent(t, "two ways of which one is silent at first", diamond(1, dummy(), down(0), down(0), dummy()), "1", "1", "0", "0")
	checkConsistent(t, "two ways without a signal", diamond(2, up(0), dummy(), up(0), dummy()), "00", "10", "10", "10")
	all := path(8, up(0), up(1), up(2), up(3), up(4), up(5), up(6), up(7))
	checkConsistent(t, "eight signals", all, "00000000", "10000000", "11000000", "11100000", "11110000", "11111000", "11111100", "11111110", "11111111")
	checkConsistent(t, "the last of eight signals", path(8, down(7)), "00000001", "00000000")
}

func TestInconsistentSTGs(t *testing.T) {
	checkInconsistent(t, "twice up", path(1, up(0), up(0)), 0)
	checkInconsistent(t, "twice down", path(1, down(0), down(0)), 0)
	checkInconsistent(t, "twice up past a silent arc", path(1, up(0), dummy(), up(0)), 0)
	checkInconsistent(t, "up in a cycle", cycle(1, up(0), dummy()), 0)
	checkInconsistent(t, "down in a cycle", cycle(1, dummy(), down(0), dummy()), 0)
	checkInconsistent(t, "a loop up", withLabels(unlabelled("1", move([]int{0}, []int{0})), 2, up(0)), 0)
	checkInconsistent(t, "a loop down", withLabels(unlabelled("1", move([]int{0}, []int{0})), 2, down(1)), 1)
	checkInconsistent(t, "either edge first", withLabels(unlabelled("100", move([]int{0}, []int{1}), move([]int{0}, []int{2})), 1, up(0), down(0)), 0)
	checkInconsistent(t, "either edge to one state", withLabels(unlabelled("10", move([]int{0}, []int{1}), move([]int{0}, []int{1})), 1, down(0), up(0)), 0)
	checkInconsistent(t, "two ways, one with an edge", diamond(2, up(0), up(1), up(0), dummy()), 1)
	checkInconsistent(t, "two ways, one with an edge down", diamond(2, up(0), dummy(), up(0), down(1)), 1)
	checkInconsistent(t, "two ways with different edges", diamond(3, up(0), up(1), up(0), up(2)), 1, 2)
	checkInconsistent(t, "two ways with opposite edges", diamond(2, up(0), down(1), up(0), up(1)), 1)
	checkInconsistent(t, "concurrent edges", withLabels(unlabelled("1010", move([]int{0}, []int{1}), move([]int{2}, []int{3})), 1, up(0), up(0)), 0)
	checkInconsistent(t, "the first and the last of three", path(3, up(0), up(2), up(1), up(2), down(1), up(0)), 0, 2)
	checkInconsistent(t, "all signals", path(8, up(7), up(6), up(5), up(4), up(3), up(2), up(1), up(0), up(0), up(1), up(2), up(3), up(4), up(5), up(6), up(7)), 0, 1, 2, 3, 4, 5, 6, 7)
	checkInconsistent(t, "a signal that never switches is none", path(3, up(1), up(1)), 1)
}

func TestUnexploredSTGs(t *testing.T) {
	checkUnexplored(t, "unsafe", withLabels(unlabelled("11", move([]int{0}, []int{1})), 1, up(0)))
	checkUnexplored(t, "unsafe behind an inconsistent signal", withLabels(unlabelled("1001", move([]int{0}, []int{1}), move([]int{1}, []int{2}), move([]int{2}, []int{3})), 1, up(0), up(0), up(0)))
	checkUnexplored(t, "unsafe at once, inconsistent", withLabels(unlabelled("11", move([]int{0}, []int{0}), move([]int{0}, []int{1})), 1, up(0), up(0)))
	for _, s := range invalidSTGs() {
		checkUnexplored(t, fmt.Sprint(s), s)
	}
	unnamed := path(1, up(0), up(0))
	unnamed.Signals[0].Name = ""
	checkUnexplored(t, "no name and inconsistent", unnamed)
}

// bitsOfStart returns the STG of count tokens which leave one after the other, in any order: 2 to the count states, one for each code, with 1 for a token that is there.
func bitsOfStart(count int) impl.STG {
	var l []impl.Transition
	var labels []impl.Label
	for i := range count {
		l = append(l, move([]int{i}, nil))
		labels = append(labels, down(i))
	}
	return withLabels(unlabelled(strings.Repeat("1", count), l...), count, labels...)
}

// withLoops returns s with a place that is always marked and silent loops, each of which needs that place and the places listed for it.
func withLoops(s impl.STG, needs ...[]int) impl.STG {
	longer := s
	longer.Start += "1"
	longer.Net = net(s.Net.Places+1, s.Net.Transitions...)
	for _, places := range needs {
		places = append(slices.Clone(places), s.Net.Places)
		longer.Net.Transitions = append(longer.Net.Transitions, move(places, places))
		longer.Labels = append(longer.Labels, dummy())
	}
	return longer
}

// TestArcLimit checks that 4000 arcs are met exactly and 4001 are too many.
func TestArcLimit(t *testing.T) {
	eight := bitsOfStart(8)
	needs := make([][]int, 11)
	most := withLoops(eight, append(needs, []int{0}, []int{0, 2, 7})...)
	c, ok := impl.BuildStateGraph(most)
	if !ok || len(c.Arcs) != maxArcs || !impl.IsValidStateGraph(c) {
		t.Errorf("BuildStateGraph of 4000 arcs: %d %v", len(c.Arcs), ok)
	}
	r, _ := impl.Explore(most)
	var codes []string
	for _, mark := range r.Marks {
		codes = append(codes, mark[:8])
	}
	checkConsistent(t, "4000 arcs", most, codes...)
	checkStateGraph(t, c)
	more := withLoops(eight, append(needs, []int{0}, []int{0, 2, 7}, []int{0, 1, 2, 3, 4, 5, 6, 7})...)
	if r, ok := impl.Explore(more); !ok || len(r.Moves) != maxArcs+1 {
		t.Fatalf("%d moves", len(r.Moves))
	}
	// By the document's words, 4001 moves are not consistent, but each signal by itself has consistent values.
	checkInconsistent(t, "4001 arcs", more)
	more.Labels[21] = up(3)
	checkInconsistent(t, "4001 arcs, one of them an inconsistent loop", more, 3)
	most.Labels[8], most.Labels[20] = down(6), up(2)
	checkInconsistent(t, "4000 arcs, some of them inconsistent loops", most, 2, 6)
}

// TestStateLimit checks that 300 states are met exactly and 301 are too many.
func TestStateLimit(t *testing.T) {
	most := withLabels(rings(3, 4, 5, 5), 4, up(0), dummy(), down(0), down(1), up(1), down(1), up(1), dummy(), dummy(), dummy(), down(3), up(3), up(2), down(2), up(2), dummy(), down(2))
	r, _ := impl.Explore(most)
	var codes []string
	for _, mark := range r.Marks {
		code := "0000"
		if mark[0] == '0' {
			code = "1000"
		}
		codes = append(codes, code[:1]+bitIf(mark[3] == '1' || mark[5] == '1')+bitIf(mark[13] == '1' || mark[15] == '1' || mark[16] == '1')+bitIf(mark[11] == '0'))
	}
	if len(codes) != impl.MaxStates {
		t.Fatalf("%d states", len(codes))
	}
	checkConsistent(t, "300 states", most, codes...)
	c, _ := impl.BuildStateGraph(most)
	checkStateGraph(t, c)
	more := ahead(most)
	more.Signals, more.Labels = most.Signals, append(slices.Clone(most.Labels), dummy())
	checkUnexplored(t, "301 states", more)
	checkUnexplored(t, "512 states", bitsOfNine())
}

func bitIf(isOne bool) string {
	if isOne {
		return "1"
	}
	return "0"
}

// bitsOfNine has 512 states and an inconsistent signal.
func bitsOfNine() impl.STG {
	s := bitsOfStart(9)
	s.Labels[8] = down(0)
	s.Signals = s.Signals[:8]
	return s
}

// ruleBits returns all ways to give each state a bit of sig such that every arc keeps it or, if it is an edge of sig, switches it as it says.
func ruleBits(r impl.ReachabilityGraph, labels []impl.Label, sig int) []int {
	var fitting []int
	for ways := range 1 << len(r.Marks) {
		fits := true
		for _, m := range r.Moves {
			before, after := ways>>m.From&1, ways>>m.To&1
			switch labels[m.By] {
			case up(sig):
				fits = fits && before == 0 && after == 1
			case down(sig):
				fits = fits && before == 1 && after == 0
			default:
				fits = fits && before == after
			}
		}
		if fits {
			fitting = append(fitting, ways)
		}
	}
	return fitting
}

// ruleCodes returns the codes and the inconsistent signals by the document's words.
func ruleCodes(s impl.STG, r impl.ReachabilityGraph) (codes []string, clashing []int) {
	codes = make([]string, len(r.Marks))
	for sig := range s.Signals {
		ways := ruleBits(r, s.Labels, sig)
		if len(ways) == 0 {
			clashing = append(clashing, sig)
			continue
		}
		for k := range codes {
			codes[k] += bitIf(slices.Min(ways)>>k&1 == 1)
		}
	}
	return codes, clashing
}

// checkCodes compares the codes of s, which must have few markings, with the rules.
func checkCodes(t *testing.T, s impl.STG) (clashing []int) {
	t.Helper()
	r, ok := impl.Explore(s)
	if !ok {
		checkUnexplored(t, fmt.Sprint(s), s)
		return nil
	}
	codes, clashing := ruleCodes(s, r)
	if len(clashing) > 0 {
		checkInconsistent(t, fmt.Sprint(s), s, clashing...)
		return clashing
	}
	checkConsistent(t, fmt.Sprint(s), s, codes...)
	checkArcsOf(t, s, r)
	return nil
}

// checkArcsOf checks that the state graph of s has its signals, and an arc for each move, whose codes differ exactly in the bit of the edge.
func checkArcsOf(t *testing.T, s impl.STG, r impl.ReachabilityGraph) {
	t.Helper()
	c, _ := impl.BuildStateGraph(s)
	if !slices.Equal(c.Signals, s.Signals) || len(c.Codes) != len(r.Marks) || len(c.Arcs) != len(r.Moves) {
		t.Fatalf("BuildStateGraph of %v: %v", s, c)
	}
	for i, m := range r.Moves {
		if c.Arcs[i] != arc(m.From, s.Labels[m.By], m.To) {
			t.Errorf("arc %d of %v: %v", i, s, c.Arcs[i])
		}
	}
	for _, a := range c.Arcs {
		changed := slices.DeleteFunc(upTo(len(s.Signals)), func(sig int) bool { return c.Codes[a.From][sig] == c.Codes[a.To][sig] })
		if a.Sig < 0 && len(changed) > 0 || a.Sig >= 0 && (!slices.Equal(changed, []int{a.Sig}) || (c.Codes[a.To][a.Sig] == '1') != a.Up) {
			t.Errorf("%v of %v leads from %s to %s", a, s, c.Codes[a.From], c.Codes[a.To])
		}
	}
}

// TestCodesByRules checks promise 5 on random labels, most of which are not consistent.
func TestCodesByRules(t *testing.T) {
	x := numbers(21)
	consistent, inconsistent, several := 0, 0, 0
	for range 60000 {
		s := someNetGraph(&x)
		s.Signals = inputs("s", 1+x.below(3))
		for i := range s.Labels {
			s.Labels[i] = []impl.Label{dummy(), dummy(), up(x.below(len(s.Signals))), down(x.below(len(s.Signals)))}[x.below(4)]
		}
		r, ok := impl.Explore(s)
		if !ok || len(r.Marks) > 8 {
			continue
		}
		clashing := checkCodes(t, s)
		c, _ := impl.BuildStateGraph(s)
		if len(clashing) > 1 {
			several++
		} else if len(clashing) == 1 {
			inconsistent++
		} else if len(c.Arcs) > 2 && slices.ContainsFunc(c.Arcs, func(a impl.Arc) bool { return a.Sig > 0 }) {
			consistent++
		}
	}
	if consistent < 500 || inconsistent < 1000 || several < 500 {
		t.Errorf("only %d consistent graphs, %d with one inconsistent signal, %d with several", consistent, inconsistent, several)
	}
}

// someConsistent returns a safe graph in which each signal has one place for 0 and one for 1, one of them marked, so that the marking holds the code.
func someConsistent(x *numbers) impl.STG {
	signals := 1 + x.below(7)
	start := ""
	for range signals {
		start += []string{"10", "01"}[x.below(2)]
	}
	var l []impl.Transition
	var labels []impl.Label
	for range 3 + x.below(22) {
		sig, value, seen := x.below(signals), x.below(2), x.below(signals)
		pre, post := []int{2*sig + value}, []int{2*sig + 1 - value}
		label := impl.Label{Sig: sig, Up: value == 0}
		if x.below(6) == 0 {
			label, post = dummy(), pre
		}
		if seen != sig && x.below(3) > 0 {
			place := 2*seen + x.below(2)
			pre, post = append(slices.Clone(pre), place), append(slices.Clone(post), place)
			slices.Sort(pre)
			slices.Sort(post)
		}
		l = append(l, move(pre, post))
		labels = append(labels, label)
	}
	return withLabels(unlabelled(start, l...), signals, labels...)
}

// TestCodesInMarkings checks promise 5 on graphs whose markings hold the codes.
func TestCodesInMarkings(t *testing.T) {
	x := numbers(22)
	large, falling, never := 0, 0, 0
	for range 1000 {
		s := someConsistent(&x)
		r, ok := impl.Explore(s)
		if !ok {
			t.Fatalf("Explore of %v", s)
		}
		var codes []string
		for _, mark := range r.Marks {
			code := ""
			for sig := range s.Signals {
				switches := slices.ContainsFunc(r.Moves, func(m impl.Move) bool { return s.Labels[m.By].Sig == sig })
				code += bitIf(switches && mark[2*sig+1] == '1')
			}
			codes = append(codes, code)
		}
		checkConsistent(t, fmt.Sprint(s), s, codes...)
		checkArcsOf(t, s, r)
		if len(codes) > 20 {
			large++
		}
		for sig := range s.Signals {
			if codes[0][sig] == '1' {
				falling++
			} else if s.Start[2*sig+1] == '1' {
				never++
			}
		}
	}
	if large < 50 || falling < 300 || never < 100 {
		t.Errorf("only %d large graphs, %d signals that are 1 at the start, %d whose place for 1 is marked without a switch", large, falling, never)
	}
}

// TestOneLabelOff checks that a wrong label in a large cycle shows.
func TestOneLabelOff(t *testing.T) {
	labels := []impl.Label{up(0), up(1), down(0), dummy(), up(2), down(2), down(1), dummy()}
	for i, l := range labels {
		for _, other := range []impl.Label{dummy(), up(0), down(0), up(1), down(1), up(2), down(2)} {
			wrong := slices.Clone(labels)
			wrong[i] = other
			clashing := checkCodes(t, cycle(3, wrong...))
			var want []int
			for sig := range 3 {
				if l != other && (l.Sig == sig || other.Sig == sig) {
					want = append(want, sig)
				}
			}
			if !slices.Equal(clashing, want) {
				t.Errorf("%v: %v", wrong, clashing)
			}
		}
	}
}

// isRuleStateGraph checks the document's words on state graphs one by one.
func isRuleStateGraph(c impl.StateGraph) bool {
	if !impl.IsValidSTG(labelled(c.Signals)) || len(c.Codes) < 1 || len(c.Codes) > 300 || len(c.Arcs) > maxArcs {
		return false
	}
	for _, code := range c.Codes {
		if len(code) != len(c.Signals) || strings.Trim(code, "01") != "" {
			return false
		}
	}
	next := make([][]int, len(c.Codes))
	for _, a := range c.Arcs {
		if a.From < 0 || a.From >= len(c.Codes) || a.To < 0 || a.To >= len(c.Codes) || !isRuleArc(a, c.Codes[a.From], c.Codes[a.To]) {
			return false
		}
		next[a.From] = append(next[a.From], a.To)
	}
	reached := map[int]bool{}
	var visit func(k int)
	visit = func(k int) {
		if !reached[k] {
			reached[k] = true
			for _, to := range next[k] {
				visit(to)
			}
		}
	}
	visit(0)
	return len(reached) == len(c.Codes)
}

func isRuleArc(a impl.Arc, before, after string) bool {
	switch {
	case a.Sig == -1:
		return !a.Up && before == after
	case a.Sig < 0 || a.Sig >= len(before):
		return false
	case a.Up:
		return before[a.Sig] == '0' && after == before[:a.Sig]+"1"+before[a.Sig+1:]
	default:
		return before[a.Sig] == '1' && after == before[:a.Sig]+"0"+before[a.Sig+1:]
	}
}

// someArc returns an arc from one code to a random one that is equal or differs in one bit, if there is any.
func someArc(x *numbers, codes []string, from int) (impl.Arc, bool) {
	to := x.below(len(codes))
	var changed uint
	for sig := range len(codes[0]) {
		if codes[from][sig] != codes[to][sig] {
			changed |= 1 << sig
		}
	}
	if changed == 0 {
		return arc(from, dummy(), to), true
	}
	sig := bits.TrailingZeros(changed)
	return impl.Arc{From: from, Sig: sig, Up: codes[to][sig] == '1', To: to}, bits.OnesCount(changed) == 1
}

// someStateGraph returns a state graph, mostly a valid one, not of any STG: its arcs are in no order and may repeat.
func someStateGraph(x *numbers) impl.StateGraph {
	signals := 1 + x.below(3)
	var codes []string
	for range 1 + x.below(6) {
		codes = append(codes, fmt.Sprintf("%0*b", signals, x.below(1<<signals)))
	}
	c := stateGraph(inputs("s", signals), codes)
	for range 40 {
		if a, ok := someArc(x, codes, x.below(len(codes))); ok && len(c.Arcs) < 9 {
			c.Arcs = append(c.Arcs, a)
		}
	}
	return c
}

// damage changes one thing in c, which may make it invalid.
func damage(x *numbers, c impl.StateGraph) {
	odd := []int{-2, -1, 0, 1, 2, 3, len(c.Codes), len(c.Signals), math.MaxInt, math.MinInt}
	i, value := x.below(max(1, len(c.Arcs))), odd[x.below(len(odd))]
	k := x.below(len(c.Codes))
	rest := c.Codes[k][min(1, len(c.Codes[k])):]
	switch kind := x.below(8); {
	case kind == 0:
		c.Codes[k] = rest
	case kind == 1:
		c.Codes[k] += "0"
	case kind == 2:
		c.Codes[k] = []string{"2", "/", "\x00", "\xff", "é", "0", "1", " "}[x.below(8)] + rest
	case kind == 3:
		c.Signals[x.below(len(c.Signals))] = []impl.Signal{signal("s1", 1), signal("", 1), signal("t", 4), signal("t", 0), signal("t", 3)}[x.below(5)]
	case len(c.Arcs) == 0:
		c.Codes[k] = ""
	case kind == 4:
		c.Arcs[i].From = value
	case kind == 5:
		c.Arcs[i].To = value
	case kind == 6:
		c.Arcs[i].Sig = value
	default:
		c.Arcs[i].Up = !c.Arcs[i].Up
	}
}

func TestIsValidStateGraphByRules(t *testing.T) {
	x := numbers(23)
	valid, invalid := 0, 0
	for range 20000 {
		c := someStateGraph(&x)
		for range x.below(3) {
			damage(&x, c)
		}
		want := isRuleStateGraph(c)
		if got := impl.IsValidStateGraph(c); got != want {
			t.Errorf("IsValidStateGraph of %v: %v", c, got)
		}
		if want {
			valid++
			checkStateGraph(t, c)
			checkShortestPaths(t, c)
		} else {
			invalid++
			checkInvalidStateGraph(t, c)
		}
	}
	if valid < 3000 || invalid < 3000 {
		t.Errorf("only %d valid and %d invalid graphs", valid, invalid)
	}
}

func chain(states int) impl.StateGraph {
	c := stateGraph(inputs("s", 1), nil)
	for k := range states {
		c.Codes = append(c.Codes, []string{"0", "1"}[k%2])
		if k > 0 {
			c.Arcs = append(c.Arcs, arc(k-1, impl.Label{Up: k%2 == 1}, k))
		}
	}
	return c
}

// oneState returns a graph of one state with the given number of silent arcs.
func oneState(loops int) impl.StateGraph {
	return stateGraph(inputs("s", 1), []string{"1"}, slices.Repeat([]impl.Arc{arc(0, dummy(), 0)}, loops)...)
}

func validStateGraphs() []impl.StateGraph {
	full := chain(impl.MaxStates)
	for len(full.Arcs) < maxArcs {
		full.Arcs = append(full.Arcs, arc(len(full.Arcs)%300, dummy(), len(full.Arcs)%300))
	}
	return []impl.StateGraph{
		bufferGraph(), chain(1), chain(2), chain(impl.MaxStates), oneState(0), oneState(1), oneState(maxArcs), full,
		stateGraph(inputs("s", impl.MaxSignals), []string{"01010101", "11010101", "11010100"}, arc(1, down(7), 2), arc(0, up(0), 1)),
		stateGraph([]impl.Signal{signal("a", impl.Internal)}, []string{"1", "1"}, arc(0, dummy(), 1), arc(0, dummy(), 1)),
		stateGraph(inputs("s", 2), []string{"00", "10", "01"}, arc(0, up(0), 1), arc(0, up(1), 2)),
		stateGraph(inputs("s", 1), []string{"0", "1", "1"}, arc(2, dummy(), 1), arc(0, up(0), 2)),
	}
}

func withArcs(l ...impl.Arc) impl.StateGraph {
	return stateGraph(inputs("s", 2), []string{"00", "10", "11", "00"}, slices.Concat([]impl.Arc{arc(0, up(0), 1), arc(1, up(1), 2), arc(0, dummy(), 3)}, l)...)
}

func withCodes(signals int, codes ...string) impl.StateGraph {
	c := stateGraph(inputs("s", signals), codes)
	for k := range codes {
		c.Arcs = append(c.Arcs, arc(0, dummy(), k))
	}
	return c
}

func invalidStateGraphs() []impl.StateGraph {
	l := []impl.StateGraph{
		{}, stateGraph(nil, []string{""}), stateGraph(inputs("s", 1), nil), stateGraph(inputs("s", 1), []string{}), {Signals: inputs("s", 1), Arcs: []impl.Arc{arc(0, dummy(), 0)}},
		withCodes(9, "000000000"), withCodes(1, "00"), withCodes(1, ""), withCodes(2, "0"), withCodes(1, "2"), withCodes(1, "/"), withCodes(1, " "), withCodes(1, "\x00"),
		withCodes(1, "\xff"), withCodes(2, "é"), withCodes(2, "0\xff"), withCodes(2, "\xff0"), withCodes(1, "0\n"), withCodes(2, "00", "0"), withCodes(2, "00", "000"),
		withCodes(2, "00", "0x"), withCodes(1, "x", "x"), withCodes(3, "000", "0é"), withCodes(2, "00", "00\x00"), withCodes(2, "00", "01"), withCodes(1, "１"),
		chain(impl.MaxStates + 1), chain(10000), oneState(maxArcs + 1),
		stateGraph(inputs("s", 1), []string{"0", "0"}), stateGraph(inputs("s", 1), []string{"0", "0"}, arc(1, dummy(), 0), arc(1, dummy(), 1)),
		stateGraph(inputs("s", 1), []string{"0", "0", "0"}, arc(0, dummy(), 1), arc(2, dummy(), 1)),
		stateGraph(inputs("s", 1), []string{"0", "0", "0"}, arc(1, dummy(), 2), arc(2, dummy(), 1)),
		stateGraph(append(inputs("s", 1), inputs("s", 1)...), []string{"00"}),
	}
	for _, name := range []string{"", "0", "A", "abcdefg", "a+", "a b"} {
		l = append(l, stateGraph([]impl.Signal{signal(name, impl.Input)}, []string{"0"}))
	}
	for _, kind := range []int{0, -1, 4, math.MaxInt, math.MinInt} {
		l = append(l, stateGraph([]impl.Signal{signal("a", kind)}, []string{"0"}))
	}
	for _, a := range []impl.Arc{
		arc(-1, dummy(), 0), arc(4, dummy(), 0), arc(0, dummy(), -1), arc(0, dummy(), 4), arc(math.MinInt, dummy(), 0), arc(math.MaxInt, dummy(), 0), arc(0, dummy(), math.MinInt), arc(0, dummy(), math.MaxInt),
		arc(0, up(-1), 0), arc(0, up(-1), 3), arc(0, down(-2), 0), arc(0, up(-2), 0), arc(0, down(2), 0), arc(0, up(2), 0), arc(0, down(math.MinInt), 0), arc(0, up(math.MaxInt), 0),
		arc(0, up(0), 0), arc(2, up(0), 2), arc(0, down(0), 0), arc(2, down(0), 2), arc(0, up(0), 3), arc(0, dummy(), 1), arc(1, dummy(), 0), arc(0, up(1), 1), arc(0, down(0), 1),
		arc(1, up(0), 0), arc(0, up(0), 2), arc(0, up(1), 2), arc(2, down(0), 3), arc(1, down(0), 2), arc(1, up(0), 2), arc(2, up(1), 1), arc(1, down(1), 2), arc(2, down(0), 1),
	} {
		l = append(l, withArcs(a), withArcs(a, arc(0, dummy(), 0)))
	}
	return l
}

func TestIsValidStateGraph(t *testing.T) {
	for i, c := range append(validStateGraphs(), withArcs()) {
		if !impl.IsValidStateGraph(c) || !isRuleStateGraph(c) {
			t.Errorf("not valid: %d", i)
		}
	}
	for i, c := range invalidStateGraphs() {
		if impl.IsValidStateGraph(c) || isRuleStateGraph(c) {
			t.Errorf("valid: %d", i)
		}
	}
}

// checkInvalidStateGraph checks that every result for an invalid graph is zero.
func checkInvalidStateGraph(t *testing.T, c impl.StateGraph) {
	t.Helper()
	for k := range 2 {
		if got, ok := impl.ArcsFrom(c, k); ok || len(got) != 0 {
			t.Errorf("ArcsFrom %d of %v: %v %v", k, c, got, ok)
		}
		if got, ok := impl.ShortestPath(c, k); ok || len(got) != 0 {
			t.Errorf("ShortestPath %d of %v: %v %v", k, c, got, ok)
		}
		for sig := range 2 {
			if got, ok := impl.IsExcited(c, k, sig); ok || got {
				t.Errorf("IsExcited %d %d of %v: %v %v", k, sig, c, got, ok)
			}
		}
	}
	for _, code := range append([]string{"", "0"}, c.Codes...) {
		if got, ok := impl.StatesWithCode(c, code); ok || len(got) != 0 {
			t.Errorf("StatesWithCode %q of %v: %v %v", code, c, got, ok)
		}
	}
}

func TestInvalidStateGraphs(t *testing.T) {
	for _, c := range invalidStateGraphs() {
		checkInvalidStateGraph(t, c)
	}
}

// checkStateGraph compares what is said of a valid graph, but for its paths, with the document's rules.
func checkStateGraph(t *testing.T, c impl.StateGraph) {
	t.Helper()
	for k, code := range c.Codes {
		var from []impl.Arc
		excited := make([]bool, len(c.Signals))
		for _, a := range c.Arcs {
			if a.From == k {
				from = append(from, a)
				if a.Sig >= 0 {
					excited[a.Sig] = true
				}
			}
		}
		if got, ok := impl.ArcsFrom(c, k); !ok || !slices.Equal(got, from) {
			t.Errorf("ArcsFrom %d of %v: %v %v", k, c, got, ok)
		}
		for sig, want := range excited {
			if got, ok := impl.IsExcited(c, k, sig); !ok || got != want {
				t.Errorf("IsExcited %d %d of %v: %v %v", k, sig, c, got, ok)
			}
		}
		var states []int
		for i, other := range c.Codes {
			if other == code {
				states = append(states, i)
			}
		}
		if got, ok := impl.StatesWithCode(c, code); !ok || !slices.Equal(got, states) {
			t.Errorf("StatesWithCode %s of %v: %v %v", code, c, got, ok)
		}
	}
}

// checkShortestPaths compares the shortest paths of a small valid graph with all of its paths.
func checkShortestPaths(t *testing.T, c impl.StateGraph) {
	t.Helper()
	r := impl.ReachabilityGraph{Marks: c.Codes}
	for _, a := range c.Arcs {
		r.Moves = append(r.Moves, step(a.From, 0, a.To))
	}
	found := map[int]bool{}
	for steps := 0; len(found) < len(c.Codes); steps++ {
		paths := rulePaths(r, steps)
		slices.SortFunc(paths, slices.Compare)
		for _, path := range paths {
			k := endOf(r, path)
			if found[k] {
				continue
			}
			found[k] = true
			var want []impl.Arc
			for _, i := range path {
				want = append([]impl.Arc{c.Arcs[i]}, want...)
			}
			if got, ok := impl.ShortestPath(c, k); !ok || !slices.Equal(got, want) {
				t.Errorf("ShortestPath %d of %v: %v %v, not %v", k, c, got, ok, want)
			}
		}
	}
}

func TestArcsFromAndIsExcited(t *testing.T) {
	c := stateGraph(inputs("s", 2), []string{"00", "10", "01", "00"}, arc(0, up(1), 2), arc(1, down(0), 3), arc(0, up(0), 1), arc(0, dummy(), 3), arc(0, up(1), 2), arc(2, dummy(), 2))
	for k, want := range [][]impl.Arc{{arc(0, up(1), 2), arc(0, up(0), 1), arc(0, dummy(), 3), arc(0, up(1), 2)}, {arc(1, down(0), 3)}, {arc(2, dummy(), 2)}, nil} {
		if got, ok := impl.ArcsFrom(c, k); !ok || !slices.Equal(got, want) {
			t.Errorf("ArcsFrom %d: %v %v", k, got, ok)
		}
	}
	for k, want := range [][]bool{{true, true}, {true, false}, {false, false}, {false, false}} {
		for sig := range 2 {
			if got, ok := impl.IsExcited(c, k, sig); !ok || got != want[sig] {
				t.Errorf("IsExcited %d %d: %v %v", k, sig, got, ok)
			}
		}
	}
}

func TestStatesWithCode(t *testing.T) {
	c := withCodes(2, "10", "10", "10")
	c.Codes = append(c.Codes, "11", "10")
	c.Arcs = append(c.Arcs, arc(2, up(1), 3), arc(3, down(1), 4))
	for _, k := range []struct {
		code string
		want []int
	}{
		{"10", []int{0, 1, 2, 4}}, {"11", []int{3}}, {"00", nil}, {"", nil}, {"1", nil}, {"100", nil}, {"1\xff", nil}, {"é", nil}, {strings.Repeat("10", 5000), nil},
	} {
		if got, ok := impl.StatesWithCode(c, k.code); !ok || !slices.Equal(got, k.want) {
			t.Errorf("StatesWithCode %q: %v %v", k.code, got, ok)
		}
	}
}

func TestShortestPath(t *testing.T) {
	square := stateGraph(inputs("s", 2), []string{"00", "10", "01", "11"}, arc(2, up(0), 3), arc(1, up(1), 3), arc(0, up(0), 1), arc(0, up(1), 2))
	ties := stateGraph(inputs("s", 2), []string{"00", "01", "01", "00", "10"}, arc(0, up(1), 2), arc(0, up(1), 1), arc(1, down(1), 3), arc(2, down(1), 3), arc(3, up(0), 4))
	shorter := withCodes(1, "0", "0", "0")
	shorter.Arcs = []impl.Arc{arc(0, dummy(), 1), arc(1, dummy(), 2), arc(0, dummy(), 2)}
	last := chain(impl.MaxStates)
	for _, c := range []struct {
		name string
		c    impl.StateGraph
		k    int
		want []impl.Arc
	}{
		{"to itself", bufferGraph(), 0, nil},
		{"to itself past a loop", oneState(3), 0, nil},
		{"two arcs", bufferGraph(), 2, bufferGraph().Arcs[:2]},
		{"the last arc decides", square, 3, []impl.Arc{arc(0, up(1), 2), arc(2, up(0), 3)}},
		{"the last but one decides", ties, 4, []impl.Arc{arc(0, up(1), 1), arc(1, down(1), 3), arc(3, up(0), 4)}},
		{"a shorter path with later arcs", shorter, 2, []impl.Arc{arc(0, dummy(), 2)}},
		{"the longest path", last, impl.MaxStates - 1, last.Arcs},
	} {
		if got, ok := impl.ShortestPath(c.c, c.k); !ok || !slices.Equal(got, c.want) {
			t.Errorf("ShortestPath, %s: %v %v", c.name, got, ok)
		}
	}
}

// TestPathsOfSTGs checks shortest paths on state graphs of STGs, along which the code switches as the arcs say.
func TestPathsOfSTGs(t *testing.T) {
	x := numbers(24)
	for range 300 {
		c, ok := impl.BuildStateGraph(someConsistent(&x))
		if !ok {
			t.Fatal("BuildStateGraph")
		}
		if len(c.Arcs) < 12 {
			checkShortestPaths(t, c)
		}
		for k, code := range c.Codes {
			at, now := 0, []byte(c.Codes[0])
			path, _ := impl.ShortestPath(c, k)
			for _, a := range path {
				if a.From != at || a.Sig >= 0 && (now[a.Sig] == '1') == a.Up {
					t.Errorf("ShortestPath %d of %v: %v", k, c, path)
				}
				if at = a.To; a.Sig >= 0 {
					now[a.Sig] ^= 1
				}
			}
			if at != k || string(now) != code {
				t.Errorf("ShortestPath %d of %v: %v leads to %s", k, c, path, now)
			}
		}
	}
}

func TestOddStateNumbers(t *testing.T) {
	c := bufferGraph()
	for _, odd := range []int{-1, -2, 4, 5, impl.MaxStates, math.MinInt, math.MaxInt} {
		if got, ok := impl.ArcsFrom(c, odd); ok || len(got) != 0 {
			t.Errorf("ArcsFrom %d: %v %v", odd, got, ok)
		}
		if got, ok := impl.ShortestPath(c, odd); ok || len(got) != 0 {
			t.Errorf("ShortestPath %d: %v %v", odd, got, ok)
		}
		if got, ok := impl.IsExcited(c, odd, 0); ok || got {
			t.Errorf("IsExcited of state %d: %v %v", odd, got, ok)
		}
	}
	// A silent arc leaves the state, but -1 is no signal.
	for _, odd := range []int{-1, -2, 1, 2, 8, math.MinInt, math.MaxInt} {
		if got, ok := impl.IsExcited(oneState(1), 0, odd); ok || got {
			t.Errorf("IsExcited of signal %d: %v %v", odd, got, ok)
		}
	}
}

func TestEqualStateGraph(t *testing.T) {
	l := append([]impl.StateGraph{{}}, append(validStateGraphs()[:6], invalidStateGraphs()[5:]...)...)
	for _, change := range []func(c *impl.StateGraph){
		func(c *impl.StateGraph) { c.Signals[1].Name = "c" }, func(c *impl.StateGraph) { c.Signals[1].Kind = impl.Internal },
		func(c *impl.StateGraph) { c.Signals = c.Signals[:1] }, func(c *impl.StateGraph) { c.Signals = nil },
		func(c *impl.StateGraph) { c.Codes[3] = "00" }, func(c *impl.StateGraph) { c.Codes[3] = "" }, func(c *impl.StateGraph) { c.Codes = c.Codes[:3] },
		func(c *impl.StateGraph) { c.Codes = nil }, func(c *impl.StateGraph) { c.Codes = append(c.Codes, "") }, func(c *impl.StateGraph) { slices.Reverse(c.Codes) },
		func(c *impl.StateGraph) { c.Arcs[3].From = 2 }, func(c *impl.StateGraph) { c.Arcs[3].Sig = 0 }, func(c *impl.StateGraph) { c.Arcs[3].Up = true },
		func(c *impl.StateGraph) { c.Arcs[3].To = 1 }, func(c *impl.StateGraph) { c.Arcs = c.Arcs[:3] }, func(c *impl.StateGraph) { c.Arcs = nil },
		func(c *impl.StateGraph) { c.Arcs = append(c.Arcs, c.Arcs[0]) }, func(c *impl.StateGraph) { slices.Reverse(c.Arcs) },
	} {
		c := bufferGraph()
		change(&c)
		l = append(l, c)
	}
	for i, a := range l {
		for k, b := range l {
			if got := impl.EqualStateGraph(a, stateGraphWithSpare(b)); got != (i == k || sameStateGraph(a, b)) {
				t.Errorf("EqualStateGraph of %v and %v: %v", a, b, got)
			}
		}
	}
	empty := impl.StateGraph{Signals: []impl.Signal{}, Codes: []string{}, Arcs: []impl.Arc{}}
	if !impl.EqualStateGraph(empty, impl.StateGraph{}) || !impl.EqualStateGraph(impl.StateGraph{}, empty) {
		t.Error("EqualStateGraph: nil and empty slices differ")
	}
	if !impl.EqualStateGraph(bufferGraph(), bufferGraph()) || impl.EqualStateGraph(bufferGraph(), impl.StateGraph{}) {
		t.Error("EqualStateGraph of the buffer")
	}
}

// stateGraphWithSpare returns c with guard values behind its lists.
func stateGraphWithSpare(c impl.StateGraph) impl.StateGraph {
	signals := append(append(make([]impl.Signal, 0, len(c.Signals)+1), c.Signals...), signal("guard", guard))
	codes := append(append(make([]string, 0, len(c.Codes)+1), c.Codes...), "guard")
	l := append(append(make([]impl.Arc, 0, len(c.Arcs)+1), c.Arcs...), arc(guard, up(guard), guard))
	return stateGraph(signals[:len(c.Signals)], codes[:len(c.Codes)], l[:len(c.Arcs)]...)
}

func wholeStateGraph(c impl.StateGraph) impl.StateGraph {
	return stateGraph(slices.Clone(c.Signals[:cap(c.Signals)]), slices.Clone(c.Codes[:cap(c.Codes)]), slices.Clone(c.Arcs[:cap(c.Arcs)])...)
}

func overwriteStateGraph(c impl.StateGraph) {
	clear(c.Signals[:cap(c.Signals)])
	clear(c.Codes[:cap(c.Codes)])
	clear(c.Arcs[:cap(c.Arcs)])
}

// checkCodeCalls checks promise 29 for chapter 5.
func checkCodeCalls(t *testing.T, s impl.STG, c, other impl.StateGraph, code string, k, sig int) {
	t.Helper()
	defer mustNotPanic(t, "a function of chapter 5")
	s, c, other = stgWithSpare(s), stateGraphWithSpare(c), stateGraphWithSpare(other)
	beforeS, before, beforeOther := wholeSTG(s), wholeStateGraph(c), wholeStateGraph(other)
	impl.IsValidStateGraph(c)
	impl.BuildStateGraph(s)
	impl.InitialCode(s)
	impl.ArcsFrom(c, k)
	impl.IsExcited(c, k, sig)
	impl.StatesWithCode(c, code)
	impl.InconsistentSignals(s)
	impl.ShortestPath(c, k)
	impl.EqualStateGraph(c, other)
	if !reflect.DeepEqual(wholeSTG(s), beforeS) || !reflect.DeepEqual(wholeStateGraph(c), before) || !reflect.DeepEqual(wholeStateGraph(other), beforeOther) {
		t.Errorf("an argument has changed: %v %v %v", s, c, other)
	}
}

func TestCodesNoPanicNoChange(t *testing.T) {
	odd := []int{0, 1, 2, 7, 8, 299, 300, -1, math.MaxInt, math.MinInt}
	graphs := append(validStateGraphs(), invalidStateGraphs()...)
	stgs := append(validSTGs(), invalidSTGs()...)
	for i, c := range graphs {
		for j, k := range odd {
			checkCodeCalls(t, stgs[(10*i+j)%len(stgs)], c, graphs[(i+j)%len(graphs)], "guard", k, odd[(i+j)%len(odd)])
		}
	}
	x := numbers(25)
	for range 2000 {
		c := someStateGraph(&x)
		damage(&x, c)
		s := someConsistent(&x)
		s.Labels[x.below(len(s.Labels))] = up(x.below(len(s.Signals)))
		checkCodeCalls(t, s, c, someStateGraph(&x), c.Codes[0], x.below(8)-1, x.below(4)-1)
	}
}

// TestCodesNewMemory checks that no result shares memory with an argument or a later result.
func TestCodesNewMemory(t *testing.T) {
	s := stgWithSpare(buffer())
	beforeS := wholeSTG(s)
	for range 2 {
		c, ok := impl.BuildStateGraph(s)
		if !ok || !sameStateGraph(c, bufferGraph()) {
			t.Errorf("a result of BuildStateGraph is kept: %v %v", c, ok)
		}
		overwriteStateGraph(c)
	}
	c := stateGraphWithSpare(bufferGraph())
	before := wholeStateGraph(c)
	for range 2 {
		for name, f := range map[string]func(c impl.StateGraph, k int) ([]impl.Arc, bool){"ArcsFrom": impl.ArcsFrom, "ShortestPath": impl.ShortestPath} {
			l, ok := f(c, 1)
			if !ok || len(l) != 1 {
				t.Errorf("%s: %v %v", name, l, ok)
			}
			clear(l[:cap(l)])
		}
		states, ok := impl.StatesWithCode(c, "11")
		if !ok || !slices.Equal(states, []int{2}) {
			t.Errorf("a result of StatesWithCode is kept: %v %v", states, ok)
		}
		overwriteInts(states)
		clashing, ok := impl.InconsistentSignals(path(1, up(0), up(0)))
		if !ok || !slices.Equal(clashing, []int{0}) {
			t.Errorf("a result of InconsistentSignals is kept: %v %v", clashing, ok)
		}
		overwriteInts(clashing)
	}
	if !reflect.DeepEqual(wholeStateGraph(c), before) || !reflect.DeepEqual(wholeSTG(s), beforeS) {
		t.Error("a result shares memory with an argument")
	}
}
