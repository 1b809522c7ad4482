package tests

import (
	"fmt"
	"math"
	"reflect"
	"slices"
	"strings"
	"testing"

	"loop.example/g00862/impl"
)

const maxTrace = 4000

func breakOf(state, sig, by int) impl.PersistencyViolation {
	return impl.PersistencyViolation{State: state, Sig: sig, By: by}
}

// kindsOf returns c with the given kinds of its first signals.
func kindsOf(c impl.StateGraph, kinds ...int) impl.StateGraph {
	c.Signals = slices.Clone(c.Signals)
	for sig, kind := range kinds {
		c.Signals[sig].Kind = kind
	}
	return c
}

// fork has the codes and arcs of the document's example: two signals that disable each other.
func fork(kinds ...int) impl.StateGraph {
	return kindsOf(stateGraph(inputs("s", 2), []string{"00", "10", "01"}, arc(0, up(0), 1), arc(0, up(1), 2)), kinds...)
}

func samePairs(a, b [][]int) bool {
	return slices.EqualFunc(a, b, slices.Equal[[]int])
}

// findings is all that is said of a graph by itself.
type findings struct {
	own       []int
	breaks    []impl.PersistencyViolation
	equal     [][]int
	conflicts [][]int
	forks     [][]int
	why       string
}

func isRuleInput(c impl.StateGraph, sig int) bool {
	return sig >= 0 && c.Signals[sig].Kind == impl.Input
}

func isRuleExcited(c impl.StateGraph, k, sig int) bool {
	for _, a := range c.Arcs {
		if a.From == k && a.Sig == sig {
			return true
		}
	}
	return false
}

func ruleBreaks(c impl.StateGraph) (l []impl.PersistencyViolation) {
	for k := range c.Codes {
		for sig := range c.Signals {
			if !isRuleExcited(c, k, sig) {
				continue
			}
			for by, a := range c.Arcs {
				if a.From == k && a.Sig != sig && !isRuleExcited(c, a.To, sig) && !(isRuleInput(c, sig) && isRuleInput(c, a.Sig)) {
					l = append(l, breakOf(k, sig, by))
				}
			}
		}
	}
	return l
}

func ruleCodePairs(c impl.StateGraph) (equal, conflicts [][]int) {
	for i := range c.Codes {
		for k := range c.Codes {
			if i >= k || c.Codes[i] != c.Codes[k] {
				continue
			}
			equal = append(equal, []int{i, k})
			for sig := range c.Signals {
				if !isRuleInput(c, sig) && isRuleExcited(c, i, sig) != isRuleExcited(c, k, sig) {
					conflicts = append(conflicts, []int{i, k})
					break
				}
			}
		}
	}
	return equal, conflicts
}

func ruleForks(c impl.StateGraph) (forks [][]int) {
	for i, a := range c.Arcs {
		for k, b := range c.Arcs {
			if i < k && a.From == b.From && a.Sig == b.Sig && a.Sig >= 0 && a.To != b.To {
				forks = append(forks, []int{i, k})
			}
		}
	}
	return forks
}

// ruleAnswers returns the answers of Diagnose that apply, in order.
func ruleAnswers(c impl.StateGraph, f findings) (l []string) {
	for _, a := range c.Arcs {
		if a.Sig < 0 {
			l = []string{"hidden"}
		}
	}
	if len(f.forks) > 0 {
		l = append(l, "two ways")
	}
	if len(f.breaks) > 0 {
		l = append(l, "break")
	}
	if len(f.conflicts) > 0 {
		l = append(l, "conflict")
	}
	return l
}

// ruleFindings follows the document's words.
func ruleFindings(c impl.StateGraph) findings {
	f := findings{breaks: ruleBreaks(c), forks: ruleForks(c)}
	f.equal, f.conflicts = ruleCodePairs(c)
	for sig := range c.Signals {
		if !isRuleInput(c, sig) {
			f.own = append(f.own, sig)
		}
	}
	f.why = append(ruleAnswers(c, f), "made")[0]
	return f
}

func checkFindings(t *testing.T, name string, c impl.StateGraph, want findings) {
	t.Helper()
	if got, ok := impl.NonInputSignals(c); !ok || !slices.Equal(got, want.own) {
		t.Errorf("NonInputSignals, %s: %v %v, not %v", name, got, ok, want.own)
	}
	if got, ok := impl.PersistencyViolations(c); !ok || !slices.Equal(got, want.breaks) {
		t.Errorf("PersistencyViolations, %s: %v %v, not %v", name, got, ok, want.breaks)
	}
	if got, ok := impl.EqualCodePairs(c); !ok || !samePairs(got, want.equal) {
		t.Errorf("EqualCodePairs, %s: %v %v, not %v", name, got, ok, want.equal)
	}
	if got, ok := impl.CSCConflicts(c); !ok || !samePairs(got, want.conflicts) {
		t.Errorf("CSCConflicts, %s: %v %v, not %v", name, got, ok, want.conflicts)
	}
	if got, ok := impl.NondeterministicArcs(c); !ok || !samePairs(got, want.forks) {
		t.Errorf("NondeterministicArcs, %s: %v %v, not %v", name, got, ok, want.forks)
	}
	if got, ok := impl.Diagnose(c); !ok || got != want.why {
		t.Errorf("Diagnose, %s: %q %v, not %q", name, got, ok, want.why)
	}
	if got, ok := impl.IsImplementable(c); !ok || got != (want.why == "made") {
		t.Errorf("IsImplementable, %s: %v %v", name, got, ok)
	}
}

func TestImplementableGraphs(t *testing.T) {
	checkFindings(t, "the buffer", bufferGraph(), findings{own: []int{1}, why: "made"})
	checkFindings(t, "inputs only", kindsOf(bufferGraph(), impl.Input, impl.Input), findings{why: "made"})
	checkFindings(t, "outputs only", kindsOf(bufferGraph(), impl.Output, impl.Output), findings{own: []int{0, 1}, why: "made"})
	checkFindings(t, "an internal signal", kindsOf(bufferGraph(), impl.Internal, impl.Input), findings{own: []int{0}, why: "made"})
	checkFindings(t, "one state", kindsOf(oneState(0), impl.Internal), findings{own: []int{0}, why: "made"})
	square := stateGraph(inputs("s", 2), []string{"00", "10", "01", "11"}, arc(0, up(0), 1), arc(0, up(1), 2), arc(1, up(1), 3), arc(2, up(0), 3))
	checkFindings(t, "two concurrent signals", kindsOf(square, impl.Output, impl.Internal), findings{own: []int{0, 1}, why: "made"})
	eight := stateGraph(inputs("s", 8), []string{"00000000", "00000001"}, arc(0, up(7), 1), arc(1, down(7), 0))
	kinds := []int{impl.Output, impl.Input, impl.Internal, impl.Input, impl.Input, impl.Internal, impl.Output, impl.Internal}
	checkFindings(t, "eight signals", kindsOf(eight, kinds...), findings{own: []int{0, 2, 5, 6, 7}, why: "made"})
}

func TestPersistencyViolations(t *testing.T) {
	for _, kinds := range [][]int{{impl.Output, impl.Output}, {impl.Internal, impl.Output}, {impl.Internal, impl.Internal}} {
		checkFindings(t, fmt.Sprint("two of kinds ", kinds), fork(kinds...), findings{own: []int{0, 1}, breaks: []impl.PersistencyViolation{breakOf(0, 0, 1), breakOf(0, 1, 0)}, why: "break"})
	}
	checkFindings(t, "two inputs", fork(impl.Input, impl.Input), findings{why: "made"})
	for _, kind := range []int{impl.Output, impl.Internal} {
		both := []impl.PersistencyViolation{breakOf(0, 0, 1), breakOf(0, 1, 0)}
		checkFindings(t, "an input first", fork(impl.Input, kind), findings{own: []int{1}, breaks: both, why: "break"})
		checkFindings(t, "an input last", fork(kind, impl.Input), findings{own: []int{0}, breaks: both, why: "break"})
	}
	oneWay := stateGraph(fork().Signals, []string{"00", "10", "01", "11"}, arc(0, up(0), 1), arc(0, up(1), 2), arc(2, up(0), 3))
	checkFindings(t, "an input disables an output", kindsOf(oneWay, impl.Input, impl.Output), findings{own: []int{1}, breaks: []impl.PersistencyViolation{breakOf(0, 1, 0)}, why: "break"})
	checkFindings(t, "an output disables an input", kindsOf(oneWay, impl.Output, impl.Input), findings{own: []int{0}, breaks: []impl.PersistencyViolation{breakOf(0, 1, 0)}, why: "break"})
	checkFindings(t, "an input disables an input", kindsOf(oneWay, impl.Input, impl.Input), findings{why: "made"})
	same := stateGraph(inputs("s", 1), []string{"0", "1", "1"}, arc(0, up(0), 1), arc(0, up(0), 2))
	checkFindings(t, "an edge of the same signal", kindsOf(same, impl.Output), findings{own: []int{0}, equal: [][]int{{1, 2}}, forks: [][]int{{0, 1}}, why: "two ways"})
	other := stateGraph(inputs("s", 1), []string{"0", "1", "0"}, arc(0, up(0), 1), arc(1, down(0), 2))
	checkFindings(t, "the next edge of the same signal", other, findings{equal: [][]int{{0, 2}}, why: "made"})
}

func TestSilentArcsDisable(t *testing.T) {
	silent := stateGraph(inputs("s", 1), []string{"0", "1", "0"}, arc(0, up(0), 1), arc(0, dummy(), 2), arc(0, dummy(), 0))
	checkFindings(t, "an input", silent, findings{breaks: []impl.PersistencyViolation{breakOf(0, 0, 1)}, equal: [][]int{{0, 2}}, why: "hidden"})
	checkFindings(t, "an output", kindsOf(silent, impl.Output), findings{own: []int{0}, breaks: []impl.PersistencyViolation{breakOf(0, 0, 1)}, equal: [][]int{{0, 2}}, conflicts: [][]int{{0, 2}}, why: "hidden"})
	silent.Arcs = append(silent.Arcs, arc(2, up(0), 1))
	checkFindings(t, "none", kindsOf(silent, impl.Internal), findings{own: []int{0}, equal: [][]int{{0, 2}}, why: "hidden"})
	loop := stateGraph(inputs("s", 1), []string{"1"}, arc(0, dummy(), 0))
	checkFindings(t, "a silent loop alone", kindsOf(loop, impl.Output), findings{own: []int{0}, why: "hidden"})
}

// TestOrderOfViolations has arcs that are not in the order of their states, signals that disable several others, and one arc twice.
func TestOrderOfViolations(t *testing.T) {
	c := stateGraph(inputs("s", 3), []string{"000", "100", "010", "001", "101"},
		arc(1, up(2), 4), arc(0, up(2), 3), arc(3, up(0), 4), arc(0, up(1), 2), arc(1, dummy(), 1), arc(0, up(0), 1), arc(0, up(1), 2))
	zero := []impl.PersistencyViolation{breakOf(0, 0, 3), breakOf(0, 0, 6), breakOf(0, 1, 1), breakOf(0, 1, 5), breakOf(0, 2, 3), breakOf(0, 2, 6)}
	checkFindings(t, "outputs", kindsOf(c, impl.Output, impl.Output, impl.Output), findings{own: []int{0, 1, 2}, breaks: zero, why: "hidden"})
	checkFindings(t, "the second one an output", kindsOf(c, impl.Input, impl.Output), findings{own: []int{1}, breaks: zero, why: "hidden"})
	checkFindings(t, "the first one an output", kindsOf(c, impl.Output), findings{own: []int{0}, breaks: []impl.PersistencyViolation{zero[0], zero[1], zero[3]}, why: "hidden"})
	later := stateGraph(inputs("s", 2), []string{"00", "10", "10", "11"}, arc(2, up(1), 3), arc(2, dummy(), 1), arc(1, dummy(), 2), arc(0, up(0), 1))
	later.Arcs = append(later.Arcs, arc(1, up(1), 3), arc(3, down(0), 4), arc(3, down(1), 1))
	later.Codes = append(later.Codes, "01")
	want := []impl.PersistencyViolation{breakOf(3, 0, 6), breakOf(3, 1, 5)}
	checkFindings(t, "in the last state", kindsOf(later, impl.Output), findings{own: []int{0}, breaks: want, equal: [][]int{{1, 2}}, why: "hidden"})
}

func TestCodePairs(t *testing.T) {
	// The states 0, 2 and 4 have one code; b is excited in 2 alone.
	pulses := stateGraph(inputs("s", 2), []string{"00", "10", "00", "01", "00", "10"},
		arc(0, up(0), 1), arc(1, down(0), 2), arc(2, up(1), 3), arc(3, down(1), 4), arc(4, up(0), 5))
	zeros, all := [][]int{{0, 2}, {2, 4}}, [][]int{{0, 2}, {0, 4}, {1, 5}, {2, 4}}
	checkFindings(t, "inputs", pulses, findings{equal: all, why: "made"})
	checkFindings(t, "an input first", kindsOf(pulses, impl.Input, impl.Output), findings{own: []int{1}, equal: all, conflicts: zeros, why: "conflict"})
	checkFindings(t, "an input last", kindsOf(pulses, impl.Internal, impl.Input), findings{own: []int{0}, equal: all, conflicts: [][]int{{0, 2}, {1, 5}, {2, 4}}, why: "conflict"})
	pulses.Arcs = append(pulses.Arcs, arc(5, down(0), 4))
	checkFindings(t, "outputs", kindsOf(pulses, impl.Output, impl.Output), findings{own: []int{0, 1}, equal: all, conflicts: zeros, why: "conflict"})
	twice := stateGraph(inputs("s", 1), []string{"0", "1", "0", "1"}, arc(0, up(0), 1), arc(1, down(0), 2), arc(2, up(0), 3), arc(3, down(0), 0))
	checkFindings(t, "equal codes without a conflict", kindsOf(twice, impl.Output), findings{own: []int{0}, equal: [][]int{{0, 2}, {1, 3}}, why: "made"})
	last := stateGraph(inputs("s", 8), []string{"00000000", "00000010", "00000000", "00000001"}, arc(0, up(6), 1), arc(1, down(6), 2), arc(2, up(7), 3))
	checkFindings(t, "the last of eight signals", kindsOf(last, 1, 1, 1, 1, 1, 1, 1, impl.Internal), findings{own: []int{7}, equal: [][]int{{0, 2}}, conflicts: [][]int{{0, 2}}, why: "conflict"})
}

func TestNondeterministicArcs(t *testing.T) {
	c := stateGraph(inputs("s", 2), []string{"00", "10", "10", "01", "11"},
		arc(0, up(0), 1), arc(0, up(1), 3), arc(0, up(0), 2), arc(0, up(0), 1), arc(1, up(1), 4), arc(2, up(1), 4), arc(3, up(0), 4))
	equal := [][]int{{1, 2}}
	checkFindings(t, "to different states", c, findings{equal: equal, forks: [][]int{{0, 2}, {2, 3}}, why: "two ways"})
	c.Arcs[2].To = 1
	c.Arcs = append(c.Arcs, arc(3, dummy(), 3), arc(4, down(1), 2))
	checkFindings(t, "to one state", c, findings{equal: equal, why: "hidden"})
	silent := stateGraph(inputs("s", 1), []string{"0", "0", "0"}, arc(0, dummy(), 1), arc(0, dummy(), 2), arc(0, dummy(), 0), arc(0, dummy(), 1))
	checkFindings(t, "silent", silent, findings{equal: [][]int{{0, 1}, {0, 2}, {1, 2}}, why: "hidden"})
	falling := stateGraph(inputs("s", 2), []string{"11", "10", "10", "11", "10"}, arc(0, down(1), 2), arc(0, up(0), 1), arc(1, up(1), 3), arc(3, down(1), 4))
	falling.Arcs[1] = arc(0, down(1), 1)
	checkFindings(t, "falling, and the same signal from two states", falling, findings{equal: [][]int{{0, 3}, {1, 2}, {1, 4}, {2, 4}}, forks: [][]int{{0, 1}}, why: "two ways"})
	three := stateGraph(inputs("s", 1), []string{"0", "1", "1", "1"}, arc(0, up(0), 3), arc(0, up(0), 1), arc(0, up(0), 2))
	checkFindings(t, "three ways", three, findings{equal: [][]int{{1, 2}, {1, 3}, {2, 3}}, forks: [][]int{{0, 1}, {0, 2}, {1, 2}}, why: "two ways"})
}

// TestDiagnoseOrder takes away one after the other of all four answers that apply to a graph.
func TestDiagnoseOrder(t *testing.T) {
	c := stateGraph([]impl.Signal{signal("a", impl.Output), signal("b", impl.Output)}, []string{"00", "10", "01", "10"},
		arc(0, up(0), 1), arc(0, up(1), 2), arc(0, up(0), 3), arc(1, up(1), 4), arc(0, dummy(), 0))
	c.Codes = append(c.Codes, "11")
	for _, want := range []string{"hidden", "two ways", "break", "conflict", "made"} {
		if got := append(ruleAnswers(c, ruleFindings(c)), "made"); got[0] != want || want != "made" && !slices.Contains(got, "conflict") {
			t.Fatalf("the graph for %s has %v", want, got)
		}
		if got, ok := impl.Diagnose(c); !ok || got != want {
			t.Errorf("Diagnose, not %s: %s %v", want, got, ok)
		}
		if got, ok := impl.IsImplementable(c); !ok || got != (want == "made") {
			t.Errorf("IsImplementable, %s: %v %v", want, got, ok)
		}
		switch want {
		case "hidden":
			c.Arcs = c.Arcs[:4]
		case "two ways":
			c.Arcs = slices.Concat(c.Arcs[:2], c.Arcs[3:], []impl.Arc{arc(4, down(1), 3)})
		case "break":
			c.Arcs = append(c.Arcs, arc(2, up(0), 4))
		case "conflict":
			c.Arcs = append(c.Arcs, arc(3, up(1), 4))
		}
	}
}

// TestAnswersTogether checks that Diagnose gives the first answer of each set of answers that random graphs have.
func TestAnswersTogether(t *testing.T) {
	x := numbers(31)
	seen := map[string]int{}
	for range 20000 {
		c := someTree(&x)
		f := ruleFindings(c)
		seen[strings.Join(ruleAnswers(c, f), ", ")]++
		if got, ok := impl.Diagnose(c); !ok || got != f.why {
			t.Errorf("Diagnose of %v: %q %v", c, got, ok)
		}
	}
	for answers, count := range seen {
		if len(seen) != 16 || count < 20 {
			t.Errorf("%d of %d sets of answers: %s", count, len(seen), answers)
		}
	}
}

// someTree returns a valid state graph with few silent arcs: a tree and some further arcs, in no order.
func someTree(x *numbers) impl.StateGraph {
	signals := 1 + x.below(3)
	c := stateGraph(inputs("s", signals), []string{fmt.Sprintf("%0*b", signals, x.below(1<<signals))})
	for k := range x.below(6) {
		from := x.below(k + 1)
		code := []byte(c.Codes[from])
		a := arc(from, dummy(), k+1)
		if sig := x.below(signals); x.below(16) > 0 {
			a.Sig, a.Up = sig, code[sig] == '0'
			code[sig] ^= 1
		}
		c.Codes, c.Arcs = append(c.Codes, string(code)), append(c.Arcs, a)
	}
	for range x.below(6) {
		if a, ok := someArc(x, c.Codes, x.below(len(c.Codes))); ok && (a.Sig >= 0 || x.below(8) == 0) {
			c.Arcs = slices.Insert(c.Arcs, x.below(len(c.Arcs)+1), a)
		}
	}
	return someKinds(x, c)
}

func someKinds(x *numbers, c impl.StateGraph) impl.StateGraph {
	var kinds []int
	for range c.Signals {
		kinds = append(kinds, 1+x.below(3))
	}
	return kindsOf(c, kinds...)
}

// TestChecksByRules checks promise 6 on random graphs, and their traces.
func TestChecksByRules(t *testing.T) {
	x := numbers(32)
	valid, invalid := 0, 0
	for range 8000 {
		c := someTree(&x)
		if x.below(4) == 0 {
			c = someKinds(&x, someStateGraph(&x))
			damage(&x, c)
		}
		if !isRuleStateGraph(c) {
			invalid++
			checkInvalidChecks(t, c)
			continue
		}
		valid++
		checkFindings(t, fmt.Sprint(c), c, ruleFindings(c))
		checkViolationTraces(t, c)
		for range 3 {
			checkTrace(t, c, someTrace(&x, c))
		}
	}
	if valid < 5000 || invalid < 1000 {
		t.Errorf("only %d valid and %d invalid graphs", valid, invalid)
	}
}

// someCycle returns a consistent cycle in which each signal switches as often in the second half as in the first.
func someCycle(x *numbers) impl.STG {
	signals := 1 + x.below(4)
	var order []int
	for range 1 + x.below(6) {
		order = append(order, x.below(signals))
	}
	values := make([]bool, signals)
	var labels []impl.Label
	for _, sig := range append(order, order...) {
		values[sig] = !values[sig]
		labels = append(labels, impl.Label{Sig: sig, Up: values[sig]})
	}
	return cycle(signals, labels...)
}

// TestChecksOfSTGs checks promise 6 on the state graphs of STGs.
func TestChecksOfSTGs(t *testing.T) {
	x := numbers(33)
	seen := map[string]int{}
	for range 1500 {
		c, ok := impl.BuildStateGraph([]impl.STG{someConsistent(&x), someCycle(&x)}[x.below(2)])
		if !ok {
			t.Fatal("BuildStateGraph")
		}
		c = someKinds(&x, c)
		f := ruleFindings(c)
		seen[f.why]++
		checkFindings(t, fmt.Sprint(c), c, f)
		checkWitnesses(t, c)
	}
	if seen["made"] < 20 || seen["hidden"] < 20 || seen["break"] < 20 || seen["conflict"] < 20 {
		t.Errorf("too few of some answers: %v", seen)
	}
}

// checkWitnesses checks that each violation is witnessed by the arc or the pair of states that it names, and that Diagnose names the first kind.
func checkWitnesses(t *testing.T, c impl.StateGraph) {
	t.Helper()
	breaks, _ := impl.PersistencyViolations(c)
	for _, b := range breaks {
		a := c.Arcs[b.By]
		before, _ := impl.IsExcited(c, b.State, b.Sig)
		after, _ := impl.IsExcited(c, a.To, b.Sig)
		if a.From != b.State || a.Sig == b.Sig || !before || after {
			t.Errorf("%v of %v is not a violation", b, c)
		}
		text, ok := impl.ViolationTrace(c, b)
		path, _ := impl.ShortestPath(c, b.State)
		if want, _ := impl.FormatTrace(c, append(path, a)); !ok || text != want || text == "" {
			t.Errorf("ViolationTrace %v of %v: %q %v", b, c, text, ok)
		}
	}
	conflicts, _ := impl.CSCConflicts(c)
	for _, pair := range conflicts {
		if pair[0] >= pair[1] || c.Codes[pair[0]] != c.Codes[pair[1]] {
			t.Errorf("%v of %v is not a conflict", pair, c)
		}
	}
	if made, _ := impl.IsImplementable(c); made && len(breaks)+len(conflicts) > 0 {
		t.Errorf("%v is implementable", c)
	}
}

// ruleTrace writes a trace word by word.
func ruleTrace(c impl.StateGraph, l []impl.Arc) (string, bool) {
	text, at := "", 0
	for i, a := range l {
		known := false
		for _, b := range c.Arcs {
			known = known || a == b
		}
		if !known || a.From != at {
			return "", false
		}
		if i > 0 {
			text += " "
		}
		switch {
		case a.Sig < 0:
			text += "~"
		case a.Up:
			text += c.Signals[a.Sig].Name + "+"
		default:
			text += c.Signals[a.Sig].Name + "-"
		}
		at = a.To
	}
	return text, true
}

func checkTrace(t *testing.T, c impl.StateGraph, l []impl.Arc) (text string, ok bool) {
	t.Helper()
	want, wantOK := ruleTrace(c, l)
	text, ok = impl.FormatTrace(c, l)
	if ok != wantOK || text != want {
		t.Errorf("FormatTrace %v of %v: %q %v, not %q", l, c, text, ok, want)
	}
	return text, ok
}

// someTrace returns a path, mostly from state 0, at times with one thing changed.
func someTrace(x *numbers, c impl.StateGraph) (l []impl.Arc) {
	at := 0
	if x.below(6) == 0 {
		at = x.below(len(c.Codes))
	}
	for range x.below(12) {
		from, _ := impl.ArcsFrom(c, at)
		if len(from) == 0 {
			break
		}
		l = append(l, from[x.below(len(from))])
		at = l[len(l)-1].To
	}
	if len(l) == 0 || x.below(2) == 0 {
		return l
	}
	switch i := x.below(len(l)); x.below(6) {
	case 0:
		l[i].From = x.below(len(c.Codes))
	case 1:
		l[i].To = x.below(len(c.Codes) + 1)
	case 2:
		l[i].Sig = x.below(len(c.Signals)+2) - 1
	case 3:
		l[i].Up = !l[i].Up
	case 4:
		l = slices.Delete(l, i, i+1)
	default:
		l[i] = c.Arcs[x.below(len(c.Arcs))]
	}
	return l
}

func TestFormatTrace(t *testing.T) {
	c := stateGraph([]impl.Signal{signal("req", impl.Input), signal("z9", impl.Internal), signal("a", impl.Output)}, []string{"010", "110", "100", "101", "101"},
		arc(0, up(0), 1), arc(1, down(1), 2), arc(2, up(2), 3), arc(3, dummy(), 4), arc(4, dummy(), 4), arc(3, down(2), 2), arc(1, down(0), 0))
	l := c.Arcs
	for _, k := range []struct {
		l    []impl.Arc
		want string
	}{
		{nil, ""}, {[]impl.Arc{}, ""}, {l[:1], "req+"}, {l[:2], "req+ z9-"}, {l[:3], "req+ z9- a+"}, {l[:4], "req+ z9- a+ ~"}, {l[:5], "req+ z9- a+ ~ ~"},
		{[]impl.Arc{l[0], l[6], l[0], l[1], l[2], l[5], l[2], l[3]}, "req+ req- req+ z9- a+ a- a+ ~"},
	} {
		if got, ok := impl.FormatTrace(c, k.l); !ok || got != k.want {
			t.Errorf("FormatTrace %v: %q %v", k.l, got, ok)
		}
	}
	for name, wrong := range map[string][]impl.Arc{
		"not from state 0": l[1:3], "not from state 0, one arc": l[6:7], "not connected": {l[0], l[2]}, "the same arc twice": {l[0], l[0]}, "backwards": {l[1], l[0]}, "not connected at the end": {l[0], l[1], l[2], l[4]},
		"another edge": {arc(0, down(0), 1)}, "another signal": {arc(0, up(1), 1)}, "a silent arc instead": {arc(0, dummy(), 1)}, "another source": {arc(2, up(0), 1)}, "another target": {arc(0, up(0), 2)}, "a last arc that is not there": {l[0], arc(1, up(2), 3)},
		"a loop that is not there": {arc(0, dummy(), 0)}, "a path that needs no arc": {arc(0, up(0), 1), arc(1, up(0), 1), l[1]}, "a silent arc with Up": {arc(0, up(-1), 0)},
		"no signal": {arc(0, up(3), 1)}, "no state": {arc(0, up(0), 5)}, "no states": {arc(-1, up(0), -1)}, "far off": {arc(math.MinInt, up(math.MaxInt), math.MaxInt)}, "zero": {{}},
	} {
		if got, ok := impl.FormatTrace(c, wrong); ok || got != "" {
			t.Errorf("FormatTrace, %s: %q %v", name, got, ok)
		}
	}
	if got, ok := impl.FormatTrace(bufferGraph(), bufferGraph().Arcs[:2]); !ok || got != "a+ b+" {
		t.Errorf("FormatTrace of the buffer: %q %v", got, ok)
	}
}

// TestTraceLimit checks that 4000 arcs are met exactly and 4001 are too many.
func TestTraceLimit(t *testing.T) {
	c := bufferGraph()
	long := slices.Repeat(c.Arcs, maxTrace/4)
	want := strings.TrimSuffix(strings.Repeat("a+ b+ a- b- ", maxTrace/4), " ")
	if got, ok := impl.FormatTrace(c, long); !ok || got != want {
		t.Errorf("FormatTrace of 4000 arcs: %d bytes %v", len(got), ok)
	}
	if got, ok := impl.FormatTrace(c, append(long, long[0])); ok || got != "" {
		t.Errorf("FormatTrace of 4001 arcs: %d bytes %v", len(got), ok)
	}
	if got, ok := impl.FormatTrace(c, slices.Repeat(c.Arcs, maxTrace)); ok || got != "" {
		t.Errorf("FormatTrace of 16000 arcs: %d bytes %v", len(got), ok)
	}
	loops := oneState(maxArcs)
	if got, ok := impl.FormatTrace(loops, loops.Arcs); !ok || got != strings.Repeat("~ ", maxTrace-1)+"~" {
		t.Errorf("FormatTrace of 4000 loops: %d bytes %v", len(got), ok)
	}
}

// checkViolationTraces compares the traces of all violations that can be named in a small valid graph.
func checkViolationTraces(t *testing.T, c impl.StateGraph) {
	t.Helper()
	breaks := ruleBreaks(c)
	for k := -1; k <= len(c.Codes); k++ {
		for sig := -1; sig <= len(c.Signals); sig++ {
			for by := -1; by <= len(c.Arcs); by++ {
				b, want := breakOf(k, sig, by), ""
				isBreak := slices.Contains(breaks, b)
				if isBreak {
					path, _ := impl.ShortestPath(c, k)
					want, _ = ruleTrace(c, append(path, c.Arcs[by]))
				}
				if got, ok := impl.ViolationTrace(c, b); ok != isBreak || got != want {
					t.Errorf("ViolationTrace %v of %v: %q %v, not %q", b, c, got, ok, want)
				}
			}
		}
	}
}

func TestViolationTrace(t *testing.T) {
	c := fork(impl.Output, impl.Output)
	c.Signals[0].Name, c.Signals[1].Name = "a", "b"
	for b, want := range map[impl.PersistencyViolation]string{breakOf(0, 0, 1): "b+", breakOf(0, 1, 0): "a+"} {
		if got, ok := impl.ViolationTrace(c, b); !ok || got != want {
			t.Errorf("ViolationTrace %v: %q %v", b, got, ok)
		}
	}
	for _, b := range []impl.PersistencyViolation{
		breakOf(0, 0, 0), breakOf(0, 1, 1), breakOf(1, 0, 1), breakOf(2, 0, 1), breakOf(-1, 0, 1), breakOf(3, 0, 1), breakOf(0, -1, 1), breakOf(0, 2, 1), breakOf(0, 0, -1), breakOf(0, 0, 2),
		breakOf(math.MinInt, math.MinInt, math.MinInt), breakOf(math.MaxInt, math.MaxInt, math.MaxInt),
	} {
		if got, ok := impl.ViolationTrace(c, b); ok || got != "" {
			t.Errorf("ViolationTrace %v: %q %v", b, got, ok)
		}
	}
	if got, ok := impl.ViolationTrace(fork(impl.Input, impl.Input), breakOf(0, 0, 1)); ok || got != "" {
		t.Errorf("ViolationTrace of inputs: %q %v", got, ok)
	}
	// Two paths lead to the state of the violation, and there is a longer one from the start.
	far := stateGraph(inputs("s", 3), []string{"000", "100", "010", "110", "111", "010", "000"},
		arc(2, up(0), 3), arc(1, up(1), 3), arc(0, up(0), 1), arc(0, dummy(), 6), arc(6, up(1), 2), arc(3, up(2), 4), arc(3, down(0), 5), arc(3, dummy(), 3), arc(3, up(2), 4))
	far = kindsOf(far, impl.Input, impl.Input, impl.Output)
	if got, ok := impl.ViolationTrace(far, breakOf(3, 2, 6)); !ok || got != "s0+ s1+ s0-" {
		t.Errorf("ViolationTrace of a far state: %q %v", got, ok)
	}
	if got, ok := impl.ViolationTrace(far, breakOf(3, 0, 8)); !ok || got != "s0+ s1+ s2+" {
		t.Errorf("ViolationTrace of the last arc: %q %v", got, ok)
	}
	if got, ok := impl.ViolationTrace(far, breakOf(0, 0, 3)); !ok || got != "~" {
		t.Errorf("ViolationTrace of a silent arc: %q %v", got, ok)
	}
	checkViolationTraces(t, far)
}

// TestCheckLimits checks graphs of 300 states and of 4000 arcs; those beyond are among the invalid graphs.
func TestCheckLimits(t *testing.T) {
	most := kindsOf(chain(impl.MaxStates), impl.Output)
	checkFindings(t, "300 states", most, ruleFindings(most))
	loops := oneState(maxArcs)
	checkFindings(t, "4000 arcs", loops, findings{why: "hidden"})
	zeros := withCodes(1, slices.Repeat([]string{"0"}, impl.MaxStates)...)
	if l, ok := impl.EqualCodePairs(zeros); !ok || len(l) != 300*299/2 || !slices.IsSortedFunc(l, slices.Compare[[]int]) || !slices.Equal(l[len(l)-1], []int{298, 299}) {
		t.Errorf("EqualCodePairs of 300 equal states: %d %v", len(l), ok)
	}
	steps := kindsOf(chain(impl.MaxStates), impl.Output)
	steps.Arcs = slices.Repeat(steps.Arcs, 13)
	for len(steps.Arcs) < maxArcs {
		steps.Arcs = append(steps.Arcs, steps.Arcs[len(steps.Arcs)-299])
	}
	checkFindings(t, "4000 arcs between 300 states", steps, ruleFindings(steps))
	if made, ok := impl.IsImplementable(kindsOf(steps, impl.Input)); !ok || !made {
		t.Errorf("IsImplementable of 300 states with one input: %v %v", made, ok)
	}
}

// TestManyPairs checks the pairs of 4000 arcs that leave one state for two others.
func TestManyPairs(t *testing.T) {
	c := stateGraph(inputs("s", 1), []string{"0", "1", "1"})
	for i := range maxArcs {
		c.Arcs = append(c.Arcs, arc(0, up(0), 1+i%2))
	}
	l, ok := impl.NondeterministicArcs(c)
	if !ok || len(l) != maxArcs*maxArcs/4 || !slices.Equal(l[1], []int{0, 3}) || !slices.Equal(l[len(l)-1], []int{maxArcs - 2, maxArcs - 1}) {
		t.Errorf("NondeterministicArcs of 4000 arcs: %d %v", len(l), ok)
	}
	if got, ok := impl.Diagnose(c); !ok || got != "two ways" {
		t.Errorf("Diagnose of 4000 arcs: %q %v", got, ok)
	}
}

// TestViolationFarAway checks a violation in state 298 of 300, whose trace has 299 arcs.
func TestViolationFarAway(t *testing.T) {
	c := chain(impl.MaxStates - 1)
	c.Signals = append(c.Signals, signal("z", impl.Output))
	for k := range c.Codes {
		c.Codes[k] += "0"
	}
	c.Codes = append(c.Codes, "01")
	c.Arcs = append(c.Arcs, arc(298, up(1), 299), arc(298, dummy(), 0))
	breaks, ok := impl.PersistencyViolations(c)
	if !ok || !slices.Equal(breaks, []impl.PersistencyViolation{breakOf(298, 1, 299)}) {
		t.Fatalf("PersistencyViolations of a long chain: %v %v", breaks, ok)
	}
	if got, ok := impl.ViolationTrace(c, breaks[0]); !ok || got != strings.Repeat("s0+ s0- ", 149)+"~" {
		t.Errorf("ViolationTrace of a long chain: %q %v", got, ok)
	}
}

// checkInvalidChecks checks that every result for an invalid graph is zero.
func checkInvalidChecks(t *testing.T, c impl.StateGraph) {
	t.Helper()
	defer mustNotPanic(t, "a function of chapter 6")
	if got, ok := impl.NonInputSignals(c); ok || len(got) != 0 {
		t.Errorf("NonInputSignals of %v: %v %v", c, got, ok)
	}
	if got, ok := impl.PersistencyViolations(c); ok || len(got) != 0 {
		t.Errorf("PersistencyViolations of %v: %v %v", c, got, ok)
	}
	for name, f := range pairFunctions() {
		if got, ok := f(c); ok || len(got) != 0 {
			t.Errorf("%s of %v: %v %v", name, c, got, ok)
		}
	}
	if got, ok := impl.IsImplementable(c); ok || got {
		t.Errorf("IsImplementable of %v: %v %v", c, got, ok)
	}
	if got, ok := impl.Diagnose(c); ok || got != "" {
		t.Errorf("Diagnose of %v: %q %v", c, got, ok)
	}
	for _, l := range [][]impl.Arc{nil, c.Arcs, c.Arcs[:min(1, len(c.Arcs))]} {
		if got, ok := impl.FormatTrace(c, l); ok || got != "" {
			t.Errorf("FormatTrace of %v: %q %v", c, got, ok)
		}
	}
	for i := range 4 {
		if got, ok := impl.ViolationTrace(c, breakOf(0, i%2, i/2)); ok || got != "" {
			t.Errorf("ViolationTrace of %v: %q %v", c, got, ok)
		}
	}
}

func pairFunctions() map[string]func(c impl.StateGraph) ([][]int, bool) {
	return map[string]func(c impl.StateGraph) ([][]int, bool){"EqualCodePairs": impl.EqualCodePairs, "CSCConflicts": impl.CSCConflicts, "NondeterministicArcs": impl.NondeterministicArcs}
}

func TestInvalidChecks(t *testing.T) {
	for _, c := range invalidStateGraphs() {
		checkInvalidChecks(t, c)
	}
	// All of these would have violations of every kind.
	for _, change := range []func(c *impl.StateGraph){
		func(c *impl.StateGraph) { c.Codes = append(c.Codes, "00") }, func(c *impl.StateGraph) { c.Codes[1] = "00" }, func(c *impl.StateGraph) { c.Codes[1] = "1" }, func(c *impl.StateGraph) { c.Codes = nil },
		func(c *impl.StateGraph) { c.Signals = append(c.Signals, signal("c", impl.Output)) }, func(c *impl.StateGraph) { c.Signals[1].Name = "s0" }, func(c *impl.StateGraph) { c.Signals[1].Kind = 4 }, func(c *impl.StateGraph) { c.Signals = nil },
		func(c *impl.StateGraph) { c.Arcs[1].To = 4 }, func(c *impl.StateGraph) { c.Arcs[1].From = -1 }, func(c *impl.StateGraph) { c.Arcs[1].Sig = 2 }, func(c *impl.StateGraph) { c.Arcs[1].Up = false },
		func(c *impl.StateGraph) { c.Arcs = c.Arcs[1:3] }, func(c *impl.StateGraph) { c.Arcs = append(c.Arcs, arc(0, up(-1), 0)) }, func(c *impl.StateGraph) { c.Arcs = slices.Repeat(c.Arcs, 2000) },
	} {
		c := fork(impl.Output, impl.Input)
		c.Codes = append(c.Codes, "10")
		c.Arcs = append(c.Arcs, arc(0, up(0), 3))
		change(&c)
		checkInvalidChecks(t, c)
	}
}

// checkCheckCalls checks promise 29 for chapter 6.
func checkCheckCalls(t *testing.T, c impl.StateGraph, l []impl.Arc, b impl.PersistencyViolation) {
	t.Helper()
	defer mustNotPanic(t, "a function of chapter 6")
	c = stateGraphWithSpare(c)
	l = append(append(make([]impl.Arc, 0, len(l)+1), l...), arc(guard, up(guard), guard))[:len(l)]
	before, beforeL := wholeStateGraph(c), slices.Clone(l[:cap(l)])
	impl.NonInputSignals(c)
	impl.PersistencyViolations(c)
	for _, f := range pairFunctions() {
		f(c)
	}
	impl.IsImplementable(c)
	impl.Diagnose(c)
	impl.FormatTrace(c, l)
	impl.FormatTrace(c, c.Arcs)
	impl.ViolationTrace(c, b)
	if !reflect.DeepEqual(wholeStateGraph(c), before) || !slices.Equal(l[:cap(l)], beforeL) {
		t.Errorf("an argument has changed: %v %v", c, l)
	}
}

func TestChecksNoPanicNoChange(t *testing.T) {
	odd := []int{0, 1, 2, 7, 8, 299, 300, 4000, -1, math.MaxInt, math.MinInt}
	for i, c := range append(validStateGraphs(), invalidStateGraphs()...) {
		for j, k := range odd {
			b := breakOf(k, odd[(i+j)%len(odd)], odd[(i*j)%len(odd)])
			checkCheckCalls(t, c, []impl.Arc{arc(0, up(0), 1), arc(k, up(b.Sig), b.By), arc(b.Sig, down(k), 0)}, b)
		}
	}
	x := numbers(34)
	for range 3000 {
		c := someKinds(&x, someStateGraph(&x))
		l := slices.Clone(c.Arcs)
		damage(&x, c)
		breaks := append(ruleBreaks(fork(impl.Output)), breakOf(x.below(8)-1, x.below(4)-1, x.below(12)-1))
		checkCheckCalls(t, c, l, breaks[x.below(len(breaks))])
	}
}

// TestChecksNewMemory checks that no result shares memory with an argument, a later result or another part of itself.
func TestChecksNewMemory(t *testing.T) {
	source := stateGraph(inputs("s", 2), []string{"00", "10", "10", "10", "01"}, arc(0, up(0), 1), arc(0, up(0), 2), arc(0, up(0), 3), arc(0, up(1), 4), arc(1, up(0), 1))
	source.Arcs[4] = arc(3, dummy(), 3)
	source.Arcs = append(source.Arcs, arc(4, down(1), 0))
	c := stateGraphWithSpare(kindsOf(source, impl.Output, impl.Output))
	before, want := wholeStateGraph(c), ruleFindings(kindsOf(source, impl.Output, impl.Output))
	for range 2 {
		checkFindings(t, "after results were overwritten", c, want)
		own, _ := impl.NonInputSignals(c)
		overwriteInts(own)
		breaks, _ := impl.PersistencyViolations(c)
		clear(breaks[:cap(breaks)])
		for name, f := range pairFunctions() {
			pairs, ok := f(c)
			if !ok || pairsShare(pairs) {
				t.Errorf("%s: the pairs share memory: %v %v", name, pairs, ok)
			}
			for _, pair := range pairs {
				overwriteInts(pair)
			}
			clear(pairs[:cap(pairs)])
		}
	}
	if !reflect.DeepEqual(wholeStateGraph(c), before) {
		t.Error("a result shares memory with an argument")
	}
}

// pairsShare reports whether writing to one pair, its capacity included, changes another one.
func pairsShare(pairs [][]int) bool {
	n := impl.Net{}
	for _, pair := range pairs {
		n.Transitions = append(n.Transitions, impl.Transition{Pre: pair})
	}
	return listsShare(n)
}
