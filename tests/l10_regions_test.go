package tests

import (
	"fmt"
	"math"
	"reflect"
	"slices"
	"testing"

	"loop.example/g00862/impl"
)

const maxPathStates = 8

// edgeStates is all that is said of the states around one edge.
type edgeStates struct {
	excited    []int
	switched   []int
	components [][]int
}

func checkEdge(t *testing.T, name string, c impl.StateGraph, l impl.Label, want edgeStates) {
	t.Helper()
	if got, ok := impl.ExcitedStates(c, l.Sig, l.Up); !ok || !slices.Equal(got, want.excited) {
		t.Errorf("ExcitedStates %v, %s: %v %v, not %v", l, name, got, ok, want.excited)
	}
	if got, ok := impl.SwitchedStates(c, l.Sig, l.Up); !ok || !slices.Equal(got, want.switched) {
		t.Errorf("SwitchedStates %v, %s: %v %v, not %v", l, name, got, ok, want.switched)
	}
	if got, ok := impl.ExcitationComponents(c, l.Sig, l.Up); !ok || !samePairs(got, want.components) {
		t.Errorf("ExcitationComponents %v, %s: %v %v, not %v", l, name, got, ok, want.components)
	}
}

// signalStates has the rising edge, the falling edge, the states stable at 0 and at 1, and the disabling arcs of a signal.
type signalStates struct {
	rise, fall edgeStates
	zero, one  []int
	disabling  []int
}

func checkSignal(t *testing.T, name string, c impl.StateGraph, sig int, want signalStates) {
	t.Helper()
	checkEdge(t, name, c, up(sig), want.rise)
	checkEdge(t, name, c, down(sig), want.fall)
	if got, ok := impl.StableStates(c, sig, false); !ok || !slices.Equal(got, want.zero) {
		t.Errorf("StableStates at 0 of %d, %s: %v %v, not %v", sig, name, got, ok, want.zero)
	}
	if got, ok := impl.StableStates(c, sig, true); !ok || !slices.Equal(got, want.one) {
		t.Errorf("StableStates at 1 of %d, %s: %v %v, not %v", sig, name, got, ok, want.one)
	}
	if got, ok := impl.DisablingArcs(c, sig); !ok || !slices.Equal(got, want.disabling) {
		t.Errorf("DisablingArcs of %d, %s: %v %v, not %v", sig, name, got, ok, want.disabling)
	}
}

// borderOf is what is said of a set with a border.
type borderOf struct {
	entry, exit []impl.Label
	region      bool
}

func checkBorder(t *testing.T, name string, c impl.StateGraph, set []int, want borderOf) {
	t.Helper()
	if got, ok := impl.EntryLabels(c, set); !ok || !slices.Equal(got, want.entry) {
		t.Errorf("EntryLabels of %v, %s: %v %v, not %v", set, name, got, ok, want.entry)
	}
	if got, ok := impl.ExitLabels(c, set); !ok || !slices.Equal(got, want.exit) {
		t.Errorf("ExitLabels of %v, %s: %v %v, not %v", set, name, got, ok, want.exit)
	}
	if got, ok := impl.IsRegion(c, set); !ok || got != want.region {
		t.Errorf("IsRegion of %v, %s: %v %v, not %v", set, name, got, ok, want.region)
	}
}

func checkLongest(t *testing.T, name string, c impl.StateGraph, want int, set ...int) {
	t.Helper()
	if got, ok := impl.LongestPath(c, set); !ok || got != want {
		t.Errorf("LongestPath in %v, %s: %d %v, not %d", set, name, got, ok, want)
	}
}

// TestHandshakeRegions has the document's examples; its graph F is the buffer's.
func TestHandshakeRegions(t *testing.T) {
	f := bufferGraph()
	checkSignal(t, "F", f, 0, signalStates{
		rise: edgeStates{[]int{0}, []int{1}, [][]int{{0}}}, fall: edgeStates{[]int{2}, []int{3}, [][]int{{2}}}, zero: []int{3}, one: []int{1},
	})
	checkSignal(t, "F", f, 1, signalStates{
		rise: edgeStates{[]int{1}, []int{2}, [][]int{{1}}}, fall: edgeStates{[]int{3}, []int{0}, [][]int{{3}}}, zero: []int{0}, one: []int{2},
	})
	checkBorder(t, "F", f, []int{1, 2}, borderOf{labels(up(0)), labels(down(0)), true})
	checkBorder(t, "F", f, []int{0, 3}, borderOf{labels(down(0)), labels(up(0)), true})
	checkBorder(t, "F", f, []int{2, 3}, borderOf{labels(up(1)), labels(down(1)), true})
	checkBorder(t, "F", f, []int{0, 2}, borderOf{labels(down(1), up(1)), labels(down(0), up(0)), true})
	checkBorder(t, "F", f, []int{3}, borderOf{labels(down(0)), labels(down(1)), true})
	checkLongest(t, "F", f, 2, 0, 1, 2)
}

func labels(l ...impl.Label) []impl.Label { return l }

func edge(components ...[]int) edgeStates {
	e := edgeStates{components: components, excited: slices.Concat(components...)}
	slices.Sort(e.excited)
	return e
}

// leading returns e with the states that its arcs lead to.
func (e edgeStates) leading(to ...int) edgeStates {
	e.switched = to
	return e
}

// TestSignalsWithoutEdges has signals that never switch, and ones that only rise or only fall.
func TestSignalsWithoutEdges(t *testing.T) {
	still := stateGraph(inputs("s", 3), []string{"001", "101"}, arc(0, up(0), 1), arc(1, down(0), 0), arc(1, dummy(), 1))
	checkSignal(t, "it is always 0", still, 1, signalStates{zero: []int{0, 1}})
	checkSignal(t, "it is always 1", still, 2, signalStates{one: []int{0, 1}})
	checkSignal(t, "the other one switches", still, 0, signalStates{rise: edge([]int{0}).leading(1), fall: edge([]int{1}).leading(0)})
	checkSignal(t, "one state at 1", oneState(0), 0, signalStates{one: []int{0}})
	checkSignal(t, "one state with silent arcs", oneState(2), 0, signalStates{one: []int{0}})
	checkSignal(t, "one state at 0", chain(1), 0, signalStates{zero: []int{0}})
	checkSignal(t, "it only rises", chain(2), 0, signalStates{rise: edge([]int{0}).leading(1), one: []int{1}})
	falls := stateGraph(inputs("s", 1), []string{"1", "0", "1"}, arc(0, dummy(), 2), arc(2, down(0), 1))
	checkSignal(t, "it only falls", falls, 0, signalStates{fall: edge([]int{2}).leading(1), zero: []int{1}, one: []int{0}})
	last := stateGraph(inputs("s", impl.MaxSignals), []string{"11111110", "11111111"}, arc(0, up(7), 1), arc(1, down(7), 0))
	checkSignal(t, "the last of eight signals", last, 7, signalStates{rise: edge([]int{0}).leading(1), fall: edge([]int{1}).leading(0)})
	checkSignal(t, "the first of eight signals", last, 0, signalStates{one: []int{0, 1}})
}

// TestSharedTargets has a state to which several arcs of one edge lead, and states that several such arcs leave.
func TestSharedTargets(t *testing.T) {
	c := stateGraph(inputs("s", 1), []string{"0", "1", "0", "1", "0"},
		arc(4, up(0), 3), arc(0, dummy(), 2), arc(2, dummy(), 4), arc(2, up(0), 3), arc(0, up(0), 3), arc(0, up(0), 3), arc(0, up(0), 1), arc(3, down(0), 4), arc(1, down(0), 4))
	checkSignal(t, "several arcs to one state", c, 0, signalStates{rise: edge([]int{0, 2, 4}).leading(1, 3), fall: edge([]int{1}, []int{3}).leading(4)})
	c.Arcs = slices.Delete(c.Arcs, 7, 9)
	checkSignal(t, "it stays up", c, 0, signalStates{rise: edge([]int{0, 2, 4}).leading(1, 3), one: []int{1, 3}})
	c.Arcs = append(c.Arcs[1:3], c.Arcs[4:]...)
	checkSignal(t, "it is excited in one of three states at 0", c, 0, signalStates{rise: edge([]int{0}).leading(1, 3), zero: []int{2, 4}, one: []int{1, 3}, disabling: []int{0}})
}

func TestExcitationComponents(t *testing.T) {
	c := stateGraph(inputs("s", 2), []string{"00", "01", "00", "10", "00", "11"},
		arc(0, dummy(), 4), arc(4, dummy(), 2), arc(0, up(0), 3), arc(2, up(0), 3), arc(0, up(1), 1), arc(2, up(1), 1), arc(3, up(1), 5))
	checkSignal(t, "joined by states that are not excited", c, 0, signalStates{rise: edge([]int{0}, []int{2}).leading(3), zero: []int{1, 4}, one: []int{3, 5}, disabling: []int{0, 4, 5}})
	c.Arcs = append(c.Arcs, arc(1, up(0), 5))
	checkSignal(t, "joined by two arcs to a third state", c, 0, signalStates{rise: edge([]int{0, 1, 2}).leading(3, 5), zero: []int{4}, one: []int{3, 5}, disabling: []int{0}})
	checkSignal(t, "joined by arcs of the other signal", c, 1, signalStates{rise: edge([]int{0, 2, 3}).leading(1, 5), zero: []int{4}, one: []int{1, 5}, disabling: []int{0}})
	c.Arcs = append(c.Arcs, arc(4, up(0), 3))
	checkSignal(t, "joined by silent arcs", c, 0, signalStates{rise: edge([]int{0, 1, 2, 4}).leading(3, 5), one: []int{3, 5}})
	back := stateGraph(inputs("s", 1), []string{"0", "0", "1"}, arc(0, up(0), 2), arc(2, down(0), 1), arc(1, dummy(), 0), arc(1, up(0), 2))
	checkSignal(t, "joined by a silent arc to the lesser state", back, 0, signalStates{rise: edge([]int{0, 1}).leading(2), fall: edge([]int{2}).leading(1)})
	back.Arcs[2].To = 1
	back.Arcs = append(back.Arcs, arc(2, down(0), 0))
	checkSignal(t, "a silent loop joins nothing", back, 0, signalStates{rise: edge([]int{0}, []int{1}).leading(2), fall: edge([]int{2}).leading(0, 1)})
	falls := stateGraph(inputs("s", 1), []string{"1", "1", "1", "1", "1", "1", "0"}, arc(5, dummy(), 3), arc(4, dummy(), 1), arc(3, dummy(), 3))
	for k := 5; k > 0; k-- {
		falls.Arcs = append(falls.Arcs, arc(k, down(0), 6), arc(0, dummy(), k))
	}
	checkSignal(t, "several components", falls, 0, signalStates{fall: edge([]int{1, 4}, []int{2}, []int{3, 5}).leading(6), zero: []int{6}, one: []int{0}})
}

func TestDisablingArcs(t *testing.T) {
	for _, kinds := range [][]int{{impl.Input, impl.Input}, {impl.Input, impl.Output}, {impl.Internal, impl.Output}} {
		c := fork(kinds...)
		name := fmt.Sprint("two of kinds ", kinds)
		checkSignal(t, name, c, 0, signalStates{rise: edge([]int{0}).leading(1), zero: []int{2}, one: []int{1}, disabling: []int{1}})
		checkSignal(t, name, c, 1, signalStates{rise: edge([]int{0}).leading(2), zero: []int{1}, one: []int{2}, disabling: []int{0}})
	}
	loop := stateGraph(inputs("s", 1), []string{"0", "1"}, arc(1, down(0), 0), arc(0, up(0), 1), arc(1, dummy(), 1), arc(0, dummy(), 0))
	checkSignal(t, "it is excited in the other direction next", loop, 0, signalStates{rise: edge([]int{0}).leading(1), fall: edge([]int{1}).leading(0)})
	square := stateGraph(inputs("s", 2), []string{"00", "10", "01", "11"}, arc(0, up(0), 1), arc(0, up(1), 2), arc(1, up(1), 3), arc(2, up(0), 3))
	checkSignal(t, "it is still excited", square, 0, signalStates{rise: edge([]int{0, 2}).leading(1, 3), one: []int{1, 3}})
	checkSignal(t, "the other one is still excited", square, 1, signalStates{rise: edge([]int{0, 1}).leading(2, 3), one: []int{2, 3}})
	many := stateGraph(inputs("s", 3), []string{"100", "110", "101", "000", "100"},
		arc(0, up(1), 1), arc(0, dummy(), 4), arc(0, down(0), 3), arc(1, down(1), 0), arc(0, up(2), 2), arc(4, dummy(), 0), arc(0, dummy(), 4), arc(4, dummy(), 4), arc(0, up(1), 1), arc(0, dummy(), 0))
	checkSignal(t, "it is disabled before it falls", many, 0, signalStates{fall: edge([]int{0}).leading(3), zero: []int{3}, one: []int{1, 2, 4}, disabling: []int{0, 1, 4, 6, 8}})
	checkSignal(t, "by an arc to a state that the signal leaves in the other direction", many, 1, signalStates{rise: edge([]int{0}).leading(1), fall: edge([]int{1}).leading(0), zero: []int{2, 3, 4}, disabling: []int{1, 2, 4, 6}})
}

func TestBorders(t *testing.T) {
	c := stateGraph(inputs("s", 2), []string{"00", "10", "00", "10", "11"}, arc(0, up(0), 1), arc(0, dummy(), 2), arc(2, up(0), 3),
		arc(1, down(0), 0), arc(3, down(0), 2), arc(1, dummy(), 3), arc(3, up(1), 4), arc(4, down(1), 1), arc(3, dummy(), 1))
	checkBorder(t, "several arcs with one label", c, []int{1, 3}, borderOf{labels(up(0), down(1)), labels(down(0), up(1)), true})
	checkBorder(t, "silent arcs both ways", c, []int{0, 1}, borderOf{labels(dummy(), down(1)), labels(dummy()), true})
	checkBorder(t, "a signal and silent arcs", c, []int{0, 1, 4}, borderOf{labels(dummy(), up(1)), labels(dummy()), true})
	checkBorder(t, "some arcs enter and others leave", c, []int{0, 3}, borderOf{labels(dummy(), down(0), up(0)), labels(dummy(), down(0), up(0), up(1)), false})
	checkBorder(t, "only the first arc enters", c, []int{1}, borderOf{labels(dummy(), up(0), down(1)), labels(dummy(), down(0)), false})
	checkBorder(t, "only the second arc enters", c, []int{3}, borderOf{labels(dummy(), up(0)), labels(dummy(), down(0), up(1)), false})
	for _, set := range [][]int{nil, {}, {0, 1, 2, 3, 4}} {
		checkBorder(t, "no border", c, set, borderOf{region: true})
	}
	square := stateGraph(inputs("s", 2), []string{"00", "10", "01", "11"}, arc(0, up(0), 1), arc(0, up(1), 2), arc(1, up(1), 3), arc(2, up(0), 3))
	first, second, both := labels(up(0)), labels(up(1)), labels(up(0), up(1))
	checkBorder(t, "all arcs enter", square, []int{1, 3}, borderOf{entry: first, region: true})
	checkBorder(t, "all arcs leave", square, []int{0, 1}, borderOf{exit: second, region: true})
	checkBorder(t, "the first arcs do not cross", square, []int{3}, borderOf{entry: both})
	checkBorder(t, "the last arcs do not cross", square, []int{0}, borderOf{exit: both})
	checkBorder(t, "the last arc is inside", square, []int{1, 2, 3}, borderOf{entry: both})
	checkBorder(t, "an arc enters and one leaves", square, []int{1, 2}, borderOf{both, both, false})
	checkBorder(t, "a silent loop", oneState(3), []int{0}, borderOf{region: true})
	checkBorder(t, "no arc", chain(1), []int{0}, borderOf{region: true})
}

// TestOrderOfLabels has arcs of eight signals and silent ones in no order.
func TestOrderOfLabels(t *testing.T) {
	zero := "00000000"
	c := stateGraph(inputs("s", impl.MaxSignals), []string{zero})
	for _, sig := range []int{5, 0, 7, 2, 6, 1, 4, 3} {
		k := len(c.Codes)
		c.Codes = append(c.Codes, zero[:sig]+"1"+zero[sig+1:], zero)
		c.Arcs = append(c.Arcs, arc(0, up(sig), k), arc(k, down(sig), 0), arc(k, down(sig), k+1), arc(k+1, up(sig), k), arc(k+1, dummy(), 0), arc(0, dummy(), k+1))
	}
	fall, rise := labels(), labels()
	for sig := range impl.MaxSignals {
		fall, rise = append(fall, down(sig)), append(rise, up(sig))
	}
	checkBorder(t, "the initial state", c, []int{0}, borderOf{append(labels(dummy()), fall...), append(labels(dummy()), rise...), false})
	checkBorder(t, "the states with its code", c, []int{0, 2, 4, 6, 8, 10, 12, 14, 16}, borderOf{fall, rise, true})
	entry := labels(dummy(), up(0), down(1), up(2), down(3), down(4), up(5), down(6), up(7))
	exit := labels(dummy(), down(0), up(1), down(2), up(3), up(4), down(5), up(6), down(7))
	checkBorder(t, "the initial state and four others", c, []int{0, 1, 3, 5, 7}, borderOf{entry, exit, false})
}

// silentGraph has silent arcs from each of the states to each other one, in both directions and over and over.
func silentGraph(states int) impl.StateGraph {
	c := stateGraph(inputs("s", 1), slices.Repeat([]string{"0"}, states))
	for i := 0; len(c.Arcs) < maxArcs; i++ {
		c.Arcs = append(c.Arcs, arc(i%states, dummy(), i/states%states))
	}
	return c
}

func TestLongestPath(t *testing.T) {
	f := bufferGraph()
	checkLongest(t, "no state", f, 0)
	checkLongest(t, "one state", f, 0, 3)
	checkLongest(t, "a cycle", f, 3, 0, 1, 2, 3)
	checkLongest(t, "no arc inside", f, 0, 0, 2)
	checkLongest(t, "the initial state last", f, 2, 0, 2, 3)
	checkLongest(t, "silent loops", oneState(3), 0, 0)
	forkAndJoin := stateGraph(inputs("s", 2), []string{"00", "10", "01", "11", "11"}, arc(0, up(0), 1), arc(0, up(1), 2), arc(1, up(1), 3), arc(2, up(0), 3), arc(3, dummy(), 4))
	checkLongest(t, "arcs against each other's direction", forkAndJoin, 1, 0, 1, 2)
	checkLongest(t, "two arcs to one state", forkAndJoin, 1, 1, 2, 3)
	checkLongest(t, "two ways", forkAndJoin, 3, 0, 1, 2, 3, 4)
	checkLongest(t, "a way that leaves the set", forkAndJoin, 1, 0, 3, 4)
	shortcut := stateGraph(inputs("s", 1), []string{"0", "0", "0", "0", "0"},
		arc(0, dummy(), 3), arc(0, dummy(), 1), arc(1, dummy(), 2), arc(2, dummy(), 1), arc(2, dummy(), 4), arc(2, dummy(), 4), arc(4, dummy(), 3), arc(1, dummy(), 3))
	checkLongest(t, "the direct way is shorter", shortcut, 4, 0, 1, 2, 3, 4)
	checkLongest(t, "several arcs between two states", shortcut, 1, 2, 4)
	checkLongest(t, "back and forth", shortcut, 1, 1, 2)
	down := stateGraph(inputs("s", 1), []string{"0", "0", "0", "0"}, arc(0, dummy(), 3), arc(3, dummy(), 2), arc(2, dummy(), 1))
	checkLongest(t, "from the greatest state down", down, 2, 1, 2, 3)
	checkLongest(t, "the middle state first", stateGraph(down.Signals, down.Codes, arc(0, dummy(), 2), arc(2, dummy(), 1), arc(2, dummy(), 3), arc(3, dummy(), 1)), 2, 1, 2, 3)
}

// TestPathLimit checks that eight states are met exactly and nine are too many.
func TestPathLimit(t *testing.T) {
	for name, c := range map[string]impl.StateGraph{"a chain": chain(20), "a full graph": silentGraph(20)} {
		checkLongest(t, name, c, 7, 0, 1, 2, 3, 4, 5, 6, 7)
		checkLongest(t, name, c, 7, 12, 13, 14, 15, 16, 17, 18, 19)
		for _, set := range [][]int{{0, 1, 2, 3, 4, 5, 6, 7, 8}, {0, 2, 4, 6, 8, 10, 12, 14, 16}, {0, 1, 2, 3, 4, 5, 6, 7, 8, 9, 10, 11, 12, 13, 14, 15, 16, 17, 18, 19}} {
			if got, ok := impl.LongestPath(c, set); ok || got != 0 {
				t.Errorf("LongestPath in %v of %s: %d %v", set, name, got, ok)
			}
		}
	}
	checkLongest(t, "no arc inside", chain(20), 0, 0, 2, 4, 6, 8, 10, 12, 14)
	checkLongest(t, "full of arcs", silentGraph(maxPathStates), 7, 0, 1, 2, 3, 4, 5, 6, 7)
	checkLongest(t, "the last states", chain(impl.MaxStates), 7, 292, 293, 294, 295, 296, 297, 298, 299)
}

// ruleEdge, ruleSignal, ruleBorder and ruleLongest follow the document's words.
func ruleEdge(c impl.StateGraph, l impl.Label) (e edgeStates) {
	component := map[int]int{}
	for k := range c.Codes {
		for _, a := range c.Arcs {
			if a == arc(k, l, a.To) {
				component[k] = k
			}
		}
		if slices.ContainsFunc(c.Arcs, func(a impl.Arc) bool { return a == arc(a.From, l, k) }) {
			e.switched = append(e.switched, k)
		}
	}
	for range c.Codes {
		for _, a := range c.Arcs {
			from, isFrom := component[a.From]
			to, isTo := component[a.To]
			if isFrom && isTo {
				component[a.From], component[a.To] = min(from, to), min(from, to)
			}
		}
	}
	for least := range c.Codes {
		var states []int
		for k := range c.Codes {
			if other, ok := component[k]; ok && other == least {
				states = append(states, k)
			}
		}
		if len(states) > 0 {
			e.components = append(e.components, states)
		}
	}
	return edge(e.components...).leading(e.switched...)
}

func ruleSignal(c impl.StateGraph, sig int) signalStates {
	want := signalStates{rise: ruleEdge(c, up(sig)), fall: ruleEdge(c, down(sig))}
	for k, code := range c.Codes {
		switch {
		case isRuleExcited(c, k, sig):
		case code[sig] == '0':
			want.zero = append(want.zero, k)
		default:
			want.one = append(want.one, k)
		}
	}
	for i, a := range c.Arcs {
		for _, e := range []edgeStates{want.rise, want.fall} {
			if a.Sig != sig && slices.Contains(e.excited, a.From) && !slices.Contains(e.excited, a.To) {
				want.disabling = append(want.disabling, i)
			}
		}
	}
	return want
}

func ruleBorder(c impl.StateGraph, set []int) borderOf {
	want := borderOf{region: true}
	for i := -1; i < 2*len(c.Signals); i++ {
		l := impl.Label{Sig: i >> 1, Up: i%2 != 0}
		if i < 0 {
			l = dummy()
		}
		entering, leaving, all := 0, 0, 0
		for _, a := range c.Arcs {
			if a != arc(a.From, l, a.To) {
				continue
			}
			all++
			from, to := slices.Contains(set, a.From), slices.Contains(set, a.To)
			if !from && to {
				entering++
			}
			if from && !to {
				leaving++
			}
		}
		if entering > 0 {
			want.entry = append(want.entry, l)
		}
		if leaving > 0 {
			want.exit = append(want.exit, l)
		}
		if i >= 0 && entering != all && leaving != all && entering+leaving != 0 {
			want.region = false
		}
	}
	return want
}

func ruleLongest(c impl.StateGraph, set []int, path ...int) int {
	longest := max(0, len(path)-1)
	for _, k := range set {
		follows := len(path) == 0 || slices.ContainsFunc(c.Arcs, func(a impl.Arc) bool { return a.From == path[len(path)-1] && a.To == k })
		if follows && !slices.Contains(path, k) {
			longest = max(longest, ruleLongest(c, set, append(slices.Clip(path), k)...))
		}
	}
	return longest
}

func without(c impl.StateGraph, set []int) (others []int) {
	for k := range c.Codes {
		if !slices.Contains(set, k) {
			others = append(others, k)
		}
	}
	return others
}

// checkStatesOf checks all that is said of the signals of c, and that each state is in exactly one of four sets for each of them.
func checkStatesOf(t *testing.T, c impl.StateGraph) (components, disabling int) {
	t.Helper()
	for sig := range c.Signals {
		want := ruleSignal(c, sig)
		checkSignal(t, fmt.Sprint(c), c, sig, want)
		rise, _ := impl.ExcitedStates(c, sig, true)
		fall, _ := impl.ExcitedStates(c, sig, false)
		zero, _ := impl.StableStates(c, sig, false)
		one, _ := impl.StableStates(c, sig, true)
		all := slices.Concat(rise, fall, zero, one)
		slices.Sort(all)
		if len(all) != len(c.Codes) || len(slices.Compact(all)) != len(c.Codes) {
			t.Errorf("excited and stable states of %d in %v: %v %v %v %v", sig, c, rise, fall, zero, one)
		}
		components = max(components, len(want.rise.components), len(want.fall.components))
		disabling = max(disabling, len(want.disabling))
	}
	return components, disabling
}

// checkSet checks all that is said of a set, and that its labels are those of its complement the other way around.
func checkSet(t *testing.T, c impl.StateGraph, set []int) (want borderOf) {
	t.Helper()
	want = ruleBorder(c, set)
	checkBorder(t, fmt.Sprint(c), c, set, want)
	checkBorder(t, fmt.Sprint("the complement in ", c), c, without(c, set), borderOf{want.exit, want.entry, want.region})
	if len(set) <= maxPathStates {
		checkLongest(t, fmt.Sprint(c), c, ruleLongest(c, set), set...)
	} else if got, ok := impl.LongestPath(c, set); ok || got != 0 {
		t.Errorf("LongestPath in %v of %v: %d %v", set, c, got, ok)
	}
	return want
}

// someRegionGraph returns a valid state graph of up to 14 states in which many arcs have one label.
func someRegionGraph(x *numbers) impl.StateGraph {
	signals := 1 + x.below(3)
	c := stateGraph(inputs("s", signals), []string{fmt.Sprintf("%0*b", signals, x.below(1<<signals))})
	for k := range x.below(14) {
		from := x.below(k + 1)
		code := []byte(c.Codes[from])
		a := arc(from, dummy(), k+1)
		if sig := x.below(signals); x.below(3) > 0 {
			a.Sig, a.Up = sig, code[sig] == '0'
			code[sig] ^= 1
		}
		c.Codes, c.Arcs = append(c.Codes, string(code)), append(c.Arcs, a)
	}
	for range x.below(20) {
		if a, ok := someArc(x, c.Codes, x.below(len(c.Codes))); ok && (a.Sig >= 0 || x.below(3) == 0) {
			c.Arcs = slices.Insert(c.Arcs, x.below(len(c.Arcs)+1), a)
		}
	}
	return someKinds(x, c)
}

// someSet returns a random set of states, or those at which some signal has one value, sometimes with one state changed.
func someSet(x *numbers, c impl.StateGraph) (set []int) {
	sig, value, off, wild := x.below(len(c.Signals)), "01"[x.below(2)], x.below(2*len(c.Codes)), x.below(2) == 0
	most := 1 + x.below(3)
	for k, code := range c.Codes {
		isIn := code[sig] == value
		if wild {
			isIn = x.below(4) < most
		}
		if isIn != (k == off) {
			set = append(set, k)
		}
	}
	return set
}

// TestRegionsByRules checks promise 10 on random graphs.
func TestRegionsByRules(t *testing.T) {
	x := numbers(81)
	invalid, several, disabled, regions, others, silentEntries := 0, 0, 0, 0, 0, 0
	for range 4000 {
		c := someRegionGraph(&x)
		if x.below(4) == 0 {
			c = someStateGraph(&x)
			damage(&x, c)
		}
		if !isRuleStateGraph(c) {
			invalid++
			checkInvalidRegions(t, c, 0, []int{0})
			continue
		}
		components, disabling := checkStatesOf(t, c)
		several += components / 3
		disabled += disabling / 2
		for range 4 {
			want := checkSet(t, c, someSet(&x, c))
			if want.region && len(want.entry)+len(want.exit) > 1 {
				regions++
			} else if !want.region {
				others++
			}
			if len(want.entry) > 1 && want.entry[0] == dummy() {
				silentEntries++
			}
		}
	}
	if invalid < 500 || several < 300 || disabled < 1000 || regions < 1000 || others < 1000 || silentEntries < 500 {
		t.Errorf("only %d invalid graphs, %d and %d with several components and disabling arcs, %d regions, %d other sets, %d entered by silent arcs", invalid, several, disabled, regions, others, silentEntries)
	}
}

// someRings returns a safe graph of independent rings in which each label occurs once, with some transitions that wait for a place of another ring.
func someRings(x *numbers) impl.STG {
	var l []impl.Label
	var sizes []int
	for sig := 0; sig < 6; {
		some := []impl.Label{up(sig), down(sig)}
		if x.below(2) == 0 {
			some = []impl.Label{up(sig), up(sig + 1), down(sig), down(sig + 1)}
		}
		l, sizes = append(l, some...), append(sizes, len(some))
		sig += len(some) / 2
	}
	s := withLabels(rings(sizes...), 7, l...)
	for range x.below(4) {
		t, p := x.below(len(l)), x.below(s.Net.Places)
		tr := s.Net.Transitions[t]
		if slices.Contains(tr.Pre, p) || slices.Contains(tr.Post, p) {
			continue
		}
		tr.Pre, tr.Post = append(slices.Clone(tr.Pre), p), append(slices.Clone(tr.Post), p)
		slices.Sort(tr.Pre)
		slices.Sort(tr.Post)
		s.Net.Transitions[t] = tr
	}
	return s
}

// TestPlacesAreRegions checks that the states in which a place is marked are a region, which the transitions before the place enter and those behind it leave, where each label is that of one transition.
func TestPlacesAreRegions(t *testing.T) {
	x := numbers(82)
	large, waiting := 0, 0
	for range 60 {
		s := someRings(&x)
		r, _ := impl.Explore(s)
		c, ok := impl.BuildStateGraph(s)
		if !ok {
			t.Fatalf("BuildStateGraph of %v", s)
		}
		if len(c.Codes) >= 64 {
			large++
		}
		for p := range s.Net.Places {
			want := borderOf{region: true}
			var set []int
			for k, mark := range r.Marks {
				if mark[p] == '1' {
					set = append(set, k)
				}
			}
			for i, tr := range s.Net.Transitions {
				isFiring := slices.ContainsFunc(r.Moves, func(m impl.Move) bool { return m.By == i })
				before, behind := slices.Contains(tr.Post, p), slices.Contains(tr.Pre, p)
				switch {
				case before && behind:
					waiting++
				case isFiring && before:
					want.entry = append(want.entry, s.Labels[i])
				case isFiring && behind:
					want.exit = append(want.exit, s.Labels[i])
				}
			}
			checkBorder(t, fmt.Sprint("place ", p, " of ", s), c, set, want)
		}
		checkStatesOf(t, c)
	}
	if large < 20 || waiting < 40 {
		t.Errorf("only %d large graphs and %d waiting transitions", large, waiting)
	}
}

// TestRegionLimits checks graphs of 300 states and of 4000 arcs; those beyond are among the invalid graphs.
func TestRegionLimits(t *testing.T) {
	long := chain(impl.MaxStates)
	var odd, even, all []int
	for k := range impl.MaxStates {
		all = append(all, k)
	}
	for k := 0; k < impl.MaxStates; k += 2 {
		even, odd = append(even, k), append(odd, k+1)
	}
	last := len(odd) - 1
	apart := func(states []int) (l [][]int) {
		for _, k := range states {
			l = append(l, []int{k})
		}
		return l
	}
	checkSignal(t, "a long chain", long, 0, signalStates{rise: edge(apart(even)...).leading(odd...), fall: edge(apart(odd[:last])...).leading(even[1:]...), one: odd[last:]})
	checkBorder(t, "all states", long, all, borderOf{region: true})
	checkBorder(t, "the odd states", long, odd, borderOf{labels(up(0)), labels(down(0)), true})
	checkBorder(t, "the later states", long, all[10:], borderOf{entry: labels(down(0))})
	zeros := silentGraph(impl.MaxStates - 1)
	zeros.Codes = append(zeros.Codes, "1")
	zeros.Arcs = zeros.Arcs[:0]
	for k := range impl.MaxStates - 2 {
		zeros.Arcs = append(zeros.Arcs, arc((k*7+7)%299, up(0), 299), arc(k*7%299, dummy(), (k*7+7)%299))
	}
	zeros.Arcs = append(zeros.Arcs, arc(0, up(0), 299))
	for len(zeros.Arcs) < maxArcs {
		zeros.Arcs = append(zeros.Arcs, zeros.Arcs[len(zeros.Arcs)-597])
	}
	checkSignal(t, "one large component", zeros, 0, signalStates{rise: edge(all[:299]).leading(299), one: []int{299}})
}

// checkInvalidRegions checks that every result for an invalid graph is zero.
func checkInvalidRegions(t *testing.T, c impl.StateGraph, sig int, set []int) {
	t.Helper()
	checkNoSignal(t, c, sig)
	checkNoSet(t, c, set)
}

func checkNoSignal(t *testing.T, c impl.StateGraph, sig int) {
	t.Helper()
	defer mustNotPanic(t, "a function of chapter 10")
	for _, value := range []bool{false, true} {
		for name, f := range map[string]func(c impl.StateGraph, sig int, up bool) ([]int, bool){"ExcitedStates": impl.ExcitedStates, "SwitchedStates": impl.SwitchedStates, "StableStates": impl.StableStates} {
			if got, ok := f(c, sig, value); ok || len(got) != 0 {
				t.Errorf("%s of %d, %v in %v: %v %v", name, sig, value, c, got, ok)
			}
		}
		if got, ok := impl.ExcitationComponents(c, sig, value); ok || len(got) != 0 {
			t.Errorf("ExcitationComponents of %d, %v in %v: %v %v", sig, value, c, got, ok)
		}
	}
	if got, ok := impl.DisablingArcs(c, sig); ok || len(got) != 0 {
		t.Errorf("DisablingArcs of %d in %v: %v %v", sig, c, got, ok)
	}
}

func checkNoSet(t *testing.T, c impl.StateGraph, set []int) {
	t.Helper()
	defer mustNotPanic(t, "a function of chapter 10")
	for name, f := range map[string]func(c impl.StateGraph, set []int) ([]impl.Label, bool){"EntryLabels": impl.EntryLabels, "ExitLabels": impl.ExitLabels} {
		if got, ok := f(c, set); ok || len(got) != 0 {
			t.Errorf("%s of %v in %v: %v %v", name, set, c, got, ok)
		}
	}
	if got, ok := impl.IsRegion(c, set); ok || got {
		t.Errorf("IsRegion of %v in %v: %v %v", set, c, got, ok)
	}
	if got, ok := impl.LongestPath(c, set); ok || got != 0 {
		t.Errorf("LongestPath in %v of %v: %d %v", set, c, got, ok)
	}
}

func TestInvalidRegions(t *testing.T) {
	for _, c := range invalidStateGraphs() {
		for _, set := range [][]int{nil, {0}, {0, 1}} {
			checkInvalidRegions(t, c, len(set)%2, set)
		}
	}
	for _, c := range validStateGraphs() {
		for _, sig := range []int{-1, -2, len(c.Signals), len(c.Signals) + 1, impl.MaxSignals, math.MaxInt, math.MinInt} {
			checkNoSignal(t, c, sig)
		}
		count := len(c.Codes)
		for _, set := range [][]int{
			{0, 0}, {-1}, {-1, 0}, {count}, {0, count}, {math.MaxInt}, {math.MinInt}, {0, math.MaxInt}, {math.MinInt, 0}, {0, -1}, {count, 0}, {count - 1, count - 1},
			{count - 1, count}, {0, 0, 0, 0, 0, 0, 0, 0, 0}, slices.Repeat([]int{0}, impl.MaxStates+1), append(upTo(count), count), append(upTo(count), count-1),
		} {
			checkNoSet(t, c, set)
		}
	}
	for _, set := range [][]int{{1, 0}, {0, 2, 1}, {0, 1, 1}, {0, 1, 1, 2}, {2, 1, 0}, {1, 2, 0}, {0, 1, 2, 3, 4}, {0, 1, 4}, {1, 4, 2}, {-1, 1, 2}} {
		checkNoSet(t, bufferGraph(), set)
	}
}

// checkRegionCalls checks promise 29 for chapter 10.
func checkRegionCalls(t *testing.T, c impl.StateGraph, sig int, set []int) {
	t.Helper()
	defer mustNotPanic(t, "a function of chapter 10")
	c, set = stateGraphWithSpare(c), withSpare(set)
	before, beforeSet := wholeStateGraph(c), wholeInts(set)
	for _, value := range []bool{false, true} {
		impl.ExcitedStates(c, sig, value)
		impl.SwitchedStates(c, sig, value)
		impl.StableStates(c, sig, value)
		impl.ExcitationComponents(c, sig, value)
	}
	impl.DisablingArcs(c, sig)
	impl.EntryLabels(c, set)
	impl.ExitLabels(c, set)
	impl.IsRegion(c, set)
	impl.LongestPath(c, set)
	if !reflect.DeepEqual(wholeStateGraph(c), before) || !slices.Equal(wholeInts(set), beforeSet) {
		t.Errorf("an argument has changed: %v %v", c, set)
	}
}

func TestRegionsNoPanicNoChange(t *testing.T) {
	odd := []int{0, 1, 2, 7, 8, 299, 300, 4000, -1, math.MaxInt, math.MinInt}
	for i, c := range append(validStateGraphs(), invalidStateGraphs()...) {
		for j, k := range odd {
			checkRegionCalls(t, c, k, []int{0, odd[(i+j)%len(odd)], k}[i%3:])
		}
	}
	x := numbers(83)
	for range 3000 {
		c := someRegionGraph(&x)
		set := someSet(&x, c)
		if len(set) > 0 && x.below(3) == 0 {
			set[x.below(len(set))] = x.below(16) - 1
		}
		if x.below(3) == 0 {
			damage(&x, c)
		}
		checkRegionCalls(t, c, x.below(5)-1, set)
	}
}

// TestRegionsNewMemory checks that no result shares memory with an argument, a later result or another part of itself.
func TestRegionsNewMemory(t *testing.T) {
	c := stateGraphWithSpare(silentGraph(4))
	c.Arcs = append(c.Arcs[:0], arc(0, dummy(), 2), arc(0, up(0), 4), arc(1, up(0), 4), arc(2, dummy(), 3), arc(3, up(0), 5), arc(4, down(0), 0), arc(4, down(0), 1))
	c.Codes = append(c.Codes, "1", "1")
	c = stateGraphWithSpare(c)
	set := withSpare([]int{0, 4})
	before, beforeSet := wholeStateGraph(c), wholeInts(set)
	for range 2 {
		checkStatesOf(t, c)
		checkSet(t, c, set)
		for _, value := range []bool{false, true} {
			for _, f := range []func(c impl.StateGraph, sig int, up bool) ([]int, bool){impl.ExcitedStates, impl.SwitchedStates, impl.StableStates} {
				states, _ := f(c, 0, value)
				overwriteInts(states)
			}
			components, ok := impl.ExcitationComponents(c, 0, value)
			if !ok || pairsShare(components) {
				t.Errorf("the components share memory: %v %v", components, ok)
			}
			for _, states := range components {
				overwriteInts(states)
			}
			clear(components[:cap(components)])
		}
		disabling, _ := impl.DisablingArcs(c, 0)
		overwriteInts(disabling)
		for _, f := range []func(c impl.StateGraph, set []int) ([]impl.Label, bool){impl.EntryLabels, impl.ExitLabels} {
			l, _ := f(c, set)
			clear(l[:cap(l)])
		}
	}
	if !reflect.DeepEqual(wholeStateGraph(c), before) || !slices.Equal(wholeInts(set), beforeSet) {
		t.Error("a result shares memory with an argument")
	}
}
