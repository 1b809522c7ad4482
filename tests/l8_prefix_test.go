package tests

import (
	"cmp"
	"fmt"
	"maps"
	"math"
	"reflect"
	"slices"
	"strings"
	"testing"

	"loop.example/g00862/impl"
)

// netR is the ring of the document's examples.
func netR() impl.Net {
	return net(3, move([]int{0}, []int{1}), move([]int{1}, []int{2}), move([]int{2}, []int{0}))
}

func prefixR() branching {
	return unfolded(netR(), "100", event(0, 0), event(1, 1), event(2, 2))
}

// takingTurns has two transitions that may occur in either order, but not at once, and a third one that follows both.
func takingTurns() branching {
	n := net(6, move([]int{0, 4}, []int{2, 4}), move([]int{1, 4}, []int{3, 4}), move([]int{2, 3}, []int{5}))
	return unfolded(n, "110010", event(0, 0, 2), event(1, 1, 2), event(0, 0, 6), event(1, 1, 4), event(2, 3, 9), event(2, 5, 7))
}

// ruleTransitions is the sorted list of the transitions of a local configuration; the event may be a new one.
func (b branching) ruleTransitions(e impl.Event) []int {
	l := []int{e.T}
	for f := range b.rulePast(e.Pre...) {
		l = append(l, b.u.Events[f].T)
	}
	slices.Sort(l)
	return l
}

func ruleOrder(l, m []int) int {
	if len(l) != len(m) {
		return cmp.Compare(len(l), len(m))
	}
	return slices.Compare(l, m)
}

func (b branching) ruleCompare(e, f impl.Event) int {
	return ruleOrder(b.ruleTransitions(e), b.ruleTransitions(f))
}

func (b branching) ruleLocalMarking(e int) string {
	return b.ruleMarking(b.ruleCut(slices.Sorted(maps.Keys(b.ruleLocal(e)))))
}

func (b branching) ruleCompanion(e int) (int, bool) {
	mark := b.ruleLocalMarking(e)
	if mark == b.start {
		return -1, true
	}
	for f := range b.u.Events {
		if b.ruleCompare(b.u.Events[f], b.u.Events[e]) == -1 && b.ruleLocalMarking(f) == mark {
			return f, true
		}
	}
	return 0, false
}

func (b branching) ruleCutoffs() (cutoffs []int) {
	for e := range b.u.Events {
		if _, is := b.ruleCompanion(e); is {
			cutoffs = append(cutoffs, e)
		}
	}
	return cutoffs
}

func (b branching) ruleConsumes(e impl.Event, cutoffs []int) bool {
	return slices.ContainsFunc(e.Pre, func(c int) bool { return slices.Contains(cutoffs, b.u.Conditions[c].By) })
}

func (b branching) isRuleComplete(cutoffs []int) bool {
	for _, e := range b.u.Events {
		if b.ruleConsumes(e, cutoffs) {
			return false
		}
	}
	for _, e := range b.ruleExtensions() {
		if !b.ruleConsumes(e, cutoffs) {
			return false
		}
	}
	return slices.Equal(cutoffs, b.ruleCutoffs())
}

// isRuleUnsafe reports whether two conditions of one place are in one cut.
func (b branching) isRuleUnsafe() bool {
	for d := range b.u.Conditions {
		for c := range d {
			if b.u.Conditions[c].Place == b.u.Conditions[d].Place && b.isRuleCoSet([]int{c, d}) {
				return true
			}
		}
	}
	return false
}

// rulePrefix builds the prefix step by step, in the document's words.
func rulePrefix(n impl.Net, start string) (b branching, cutoffs []int, ok bool) {
	b = unfolded(n, start)
	for {
		var best *impl.Event
		extensions, _ := impl.PossibleExtensions(b.n, b.start, b.u)
		for _, e := range extensions {
			if !b.ruleConsumes(e, cutoffs) && (best == nil || b.ruleCompare(e, *best) == -1) {
				best = &e
			}
		}
		if best == nil {
			return b, cutoffs, !b.isRuleUnsafe()
		}
		if b = b.plus(*best); len(b.u.Events) > impl.MaxEvents || len(b.u.Conditions) > impl.MaxConditions {
			return b, cutoffs, false
		}
		if _, is := b.ruleCompanion(len(b.u.Events) - 1); is {
			cutoffs = append(cutoffs, len(b.u.Events)-1)
		}
	}
}

func (b branching) ruleDepth() int {
	deepest := 0
	var follow func(e, depth int)
	follow = func(e, depth int) {
		deepest = max(deepest, depth)
		for f := range b.u.Events {
			if f != e && b.ruleLocal(f)[e] {
				follow(f, depth+1)
			}
		}
	}
	for e := range b.u.Events {
		follow(e, 1)
	}
	return deepest
}

func (b branching) ruleText() string {
	text := ""
	for i, e := range b.u.Events {
		if i > 0 {
			text += "; "
		}
		text += fmt.Sprintf("%d:", e.T)
		for k, c := range e.Pre {
			if k > 0 {
				text += ","
			}
			text += fmt.Sprint(c)
		}
	}
	return text
}

func isZeroPrefix(p impl.Prefix) bool {
	return isZeroUnfolding(p.U) && len(p.Cutoffs) == 0
}

func checkLocalMarking(t *testing.T, b branching, e int, want string) {
	t.Helper()
	if got, ok := impl.LocalMarking(b.n, b.start, b.u, e); !ok || got != want {
		t.Errorf("LocalMarking of %d in %v: %q %v, not %q", e, b, got, ok, want)
	}
}

func checkCompare(t *testing.T, b branching, e, f, want int) {
	t.Helper()
	if got, ok := impl.CompareEvents(b.n, b.start, b.u, e, f); !ok || got != want {
		t.Errorf("CompareEvents of %d and %d in %v: %d %v, not %d", e, f, b, got, ok, want)
	}
}

func checkCompanion(t *testing.T, b branching, e, want int, isCutoff bool) {
	t.Helper()
	if got, ok := impl.CutoffCompanion(b.n, b.start, b.u, e); ok != isCutoff || got != want {
		t.Errorf("CutoffCompanion of %d in %v: %d %v, not %d %v", e, b, got, ok, want, isCutoff)
	}
}

func checkComplete(t *testing.T, b branching, cutoffs []int, want bool) {
	t.Helper()
	if got, ok := impl.IsCompletePrefix(b.n, b.start, impl.Prefix{U: b.u, Cutoffs: cutoffs}); !ok || got != want {
		t.Errorf("IsCompletePrefix of %v with %v: %v %v, not %v", b, cutoffs, got, ok, want)
	}
}

func checkDepth(t *testing.T, b branching, want int) {
	t.Helper()
	if got, ok := impl.CausalDepth(b.n, b.start, b.u); !ok || got != want {
		t.Errorf("CausalDepth of %v: %d %v, not %d", b, got, ok, want)
	}
}

func checkEventText(t *testing.T, b branching, want string) {
	t.Helper()
	if got, ok := impl.FormatEvents(b.n, b.start, b.u); !ok || got != want {
		t.Errorf("FormatEvents of %v: %q %v, not %q", b, got, ok, want)
	}
	if got, ok := impl.ParseEvents(b.n, b.start, want); !ok || !sameUnfolding(got, b.u) {
		t.Errorf("ParseEvents of %q: %v %v, not %v", want, got, ok, b.u)
	}
}

func checkNoEventText(t *testing.T, n impl.Net, start, text string) {
	t.Helper()
	if got, ok := impl.ParseEvents(n, start, text); ok || !isZeroUnfolding(got) {
		t.Errorf("ParseEvents of %q for %v from %q: %v %v", text, n, start, got, ok)
	}
}

// checkPrefix checks that b with these cut-off events is the complete prefix of its net.
func checkPrefix(t *testing.T, b branching, cutoffs []int) {
	t.Helper()
	got, ok := impl.CompletePrefix(b.n, b.start)
	if !ok || !sameUnfolding(got.U, b.u) || !slices.Equal(got.Cutoffs, cutoffs) {
		t.Errorf("CompletePrefix of %v from %q: %v %v, not %v with %v", b.n, b.start, got, ok, b.u, cutoffs)
	}
	if got, ok := impl.IsCompletePrefix(b.n, b.start, got); !ok || !got {
		t.Errorf("IsCompletePrefix of the prefix of %v from %q: %v %v", b.n, b.start, got, ok)
	}
}

func checkNoPrefix(t *testing.T, n impl.Net, start string) {
	t.Helper()
	if got, ok := impl.CompletePrefix(n, start); ok || !isZeroPrefix(got) {
		t.Errorf("CompletePrefix of %v from %q: %v %v", n, start, got, ok)
	}
}

func TestPrefixExamples(t *testing.T) {
	b := prefixR()
	checkPrefix(t, b, []int{2})
	checkComplete(t, b, []int{2}, true)
	checkComplete(t, b, nil, false)
	checkLocalMarking(t, b, 1, "001")
	checkCompare(t, b, 0, 2, -1)
	checkCompanion(t, b, 2, -1, true)
	checkCompanion(t, b, 1, 0, false)
	checkDepth(t, b, 3)
	checkEventText(t, b, "0:0; 1:1; 2:2")
	n := netR()
	n.Transitions = append(n.Transitions, move([]int{0}, []int{0, 1}))
	checkNoPrefix(t, n, "100")
}

func TestLocalMarking(t *testing.T) {
	for _, k := range []struct {
		b    branching
		want []string
	}{
		{prefixR(), []string{"010", "001", "100"}},
		{netU(), []string{"0110", "0110", "0101"}},
		{choicesTaken().plus(event(5, 4, 6)), []string{"01000100", "00100100", "00010100", "00001100", "10000010", "00000001"}},
		{takingTurns(), []string{"011010", "100110", "001110", "001110", "000011", "000011"}},
		{unfolded(net(1, move([]int{0}, nil)), "1", event(0, 0)), []string{"0"}},
		// Two conditions of one place mark it once.
		{unfolded(net(2, move([]int{0}, []int{0, 1})), "10", event(0, 0), event(0, 1)), []string{"11", "11"}},
		{unfolded(net(2, move([]int{0}, []int{1})), "11", event(0, 0)), []string{"01"}},
	} {
		for e, want := range k.want {
			checkLocalMarking(t, k.b, e, want)
		}
	}
}

func TestNoSuchEvent(t *testing.T) {
	for _, b := range []branching{prefixR(), takingTurns(), unfolded(netR(), "100"), unfolded(net(2), "11")} {
		count := len(b.u.Events)
		for _, e := range []int{-1, count, count + 1, 59, 60, 63, 64, math.MinInt, math.MaxInt} {
			if got, ok := impl.LocalMarking(b.n, b.start, b.u, e); ok || got != "" {
				t.Errorf("LocalMarking of %d in %v: %q %v", e, b, got, ok)
			}
			if got, ok := impl.CutoffCompanion(b.n, b.start, b.u, e); ok || got != 0 {
				t.Errorf("CutoffCompanion of %d in %v: %d %v", e, b, got, ok)
			}
			for _, f := range []int{0, count - 1, count, -1} {
				for _, k := range [][2]int{{e, f}, {f, e}, {e, e}} {
					if got, ok := impl.CompareEvents(b.n, b.start, b.u, k[0], k[1]); ok || got != 0 {
						t.Errorf("CompareEvents of %v in %v: %d %v", k, b, got, ok)
					}
				}
			}
		}
	}
}

func TestCompareEvents(t *testing.T) {
	// Three transitions put the token in place 0 back, in any order.
	n := net(2, move([]int{0}, []int{0}), move([]int{0}, []int{0}), move([]int{0}, []int{0}), move([]int{1}, nil))
	b := unfolded(n, "11", event(0, 0), event(0, 2), event(1, 0), event(1, 2), event(0, 4), event(1, 3), event(1, 5), event(0, 6), event(2, 0), event(2, 2), event(3, 1))
	lists := [][]int{{0}, {0, 0}, {1}, {0, 1}, {0, 1}, {0, 0, 1}, {0, 1, 1}, {0, 0, 1}, {2}, {0, 2}, {3}}
	for e, l := range lists {
		for f, m := range lists {
			checkCompare(t, b, e, f, ruleOrder(l, m))
		}
	}
	for _, k := range [][3]int{
		{3, 4, 0}, {4, 3, 0}, {5, 7, 0}, // equal lists of different events
		{5, 6, -1}, {6, 5, 1}, // repetitions: 0 0 1 and 0 1 1
		{1, 3, -1}, {3, 1, 1}, {0, 2, -1}, {2, 0, 1}, // smaller at the second and at the first element
		{10, 1, -1}, {1, 10, 1}, {8, 3, -1}, // fewer events count before greater transitions
		{0, 1, -1}, {1, 0, 1}, // a shorter list that the other one begins with
		{3, 9, -1}, {9, 3, 1},
	} {
		checkCompare(t, b, k[0], k[1], k[2])
	}
	for e := range b.u.Events {
		checkCompare(t, b, e, e, 0)
	}
	turns := takingTurns()
	for _, k := range [][3]int{{0, 1, -1}, {1, 0, 1}, {2, 3, 0}, {3, 2, 0}, {4, 5, 0}, {1, 2, -1}, {4, 3, 1}} {
		checkCompare(t, turns, k[0], k[1], k[2])
	}
	// A list is sorted also where the last event has the least transition.
	back := unfolded(net(3, move([]int{1}, []int{2}), move([]int{0}, []int{1}), move([]int{0}, []int{0})), "100", event(1, 0), event(0, 1), event(2, 0), event(1, 3))
	checkCompare(t, back, 1, 3, -1)
	checkCompare(t, back, 3, 1, 1)
}

func TestCutoffCompanion(t *testing.T) {
	// Three ways lead to place 1 and back; each but the least is a cut-off event.
	ways := net(3, move([]int{0}, []int{1}), move([]int{0}, []int{1}), move([]int{0}, []int{1}), move([]int{1}, []int{0}), move([]int{1}, []int{2}))
	equal := takingTurns()
	for name, k := range map[string]struct {
		b    branching
		want map[int]int
	}{
		"no cut-off event":                     {netU(), map[int]int{1: 0}},
		"back to the start":                    {prefixR(), map[int]int{2: -1}},
		"back at once":                         {unfolded(net(1, move([]int{0}, []int{0})), "1", event(0, 0), event(0, 1)), map[int]int{0: -1, 1: -1}},
		"back to the start, smaller too":       {prefixR().plus(event(0, 3), event(1, 4), event(2, 5)), map[int]int{2: -1, 3: 0, 4: 1, 5: -1}},
		"the least of several":                 {unfolded(ways, "100", event(0, 0), event(1, 0), event(2, 0)), map[int]int{1: 0, 2: 0}},
		"the least index, not the smallest":    {unfolded(ways, "100", event(1, 0), event(0, 0), event(2, 0)), map[int]int{0: 1, 2: 0}},
		"a later one is smaller":               {unfolded(ways, "100", event(2, 0), event(1, 0), event(0, 0)), map[int]int{0: 1, 1: 2}},
		"equal lists":                          {equal, map[int]int{}},
		"a cut-off event as a companion":       {unfolded(ways, "100", event(1, 0), event(2, 0), event(0, 0), event(4, 2)), map[int]int{0: 2, 1: 0}},
		"the same marking in a greater number": {unfolded(ways, "100", event(0, 0), event(3, 1), event(0, 2), event(4, 3), event(4, 1)), map[int]int{1: -1, 2: 0, 3: 4}},
		"two conditions of one place":          {unfolded(net(2, move([]int{0}, []int{0, 1})), "11", event(0, 0), event(0, 2)), map[int]int{0: -1, 1: -1}},
		"the initial marking without a place":  {unfolded(net(2, move([]int{0}, nil), move([]int{1}, []int{0})), "10", event(0, 0)), map[int]int{}},
	} {
		t.Run(name, func(t *testing.T) {
			for e := range k.b.u.Events {
				want, is := k.want[e]
				checkCompanion(t, k.b, e, want, is)
				if rule, isRule := k.b.ruleCompanion(e); rule != want || isRule != is {
					t.Errorf("the case is wrong: %d", e)
				}
			}
		})
	}
}

func TestCompletePrefix(t *testing.T) {
	ways := net(3, move([]int{0}, []int{1}), move([]int{0}, []int{1}), move([]int{0}, []int{2}), move([]int{1}, []int{0}), move([]int{2}, []int{1}))
	for name, k := range map[string]struct {
		b       branching
		cutoffs []int
	}{
		"the ring of the document":    {prefixR(), []int{2}},
		"the ring from another place": {unfolded(netR(), "001", event(2, 0), event(0, 1), event(1, 2)), []int{2}},
		"no transitions":              {unfolded(net(2), "11"), nil},
		"no marked place":             {unfolded(netR(), "000"), nil},
		"nothing is enabled":          {unfolded(net(3, move([]int{0, 1}, []int{2})), "101"), nil},
		"it ends":                     {unfolded(net(3, move([]int{0}, []int{1}), move([]int{1}, nil)), "100", event(0, 0), event(1, 1)), nil},
		"a token put back":            {unfolded(net(2, move([]int{0}, []int{0})), "10", event(0, 0)), []int{0}},
		"one put back, one moved":     {unfolded(net(3, move([]int{0}, []int{0}), move([]int{1}, []int{2})), "110", event(0, 0), event(1, 1)), []int{0}},
		"three ways to one marking":   {unfolded(ways, "100", event(0, 0), event(1, 0), event(2, 0), event(3, 1), event(4, 3)), []int{1, 3, 4}},
		"two orders":                  {takingTurns(), nil},
		"a companion that is cut":     {unfolded(net(3, move([]int{0}, []int{1}), move([]int{0}, []int{1}), move([]int{0}, []int{1}), move([]int{1}, []int{2})), "100", event(0, 0), event(1, 0), event(2, 0), event(3, 1)), []int{1, 2}},
		"two cycles":                  {unfolded(rings(2, 2).Net, "1010", event(0, 0), event(2, 1), event(1, 2), event(3, 3)), []int{2, 3}},
		// Transition 2 has fewer events, so it comes first, but place 3 is reached again by a greater local configuration.
		"a shorter way by a greater transition": {unfolded(net(4, move([]int{0}, []int{1}), move([]int{1}, []int{3}), move([]int{0}, []int{3}), move([]int{3}, nil)), "1000",
			event(0, 0), event(2, 0), event(1, 1), event(3, 2)), []int{2}},
		// The least transition is appended first, whatever the order in which the events became possible.
		"the least transition comes later": {unfolded(net(5, move([]int{2}, []int{3}), move([]int{0}, []int{1}), move([]int{0}, []int{2}), move([]int{1}, []int{4})), "10000",
			event(1, 0), event(2, 0), event(0, 2), event(3, 1)), nil},
	} {
		t.Run(name, func(t *testing.T) {
			checkPrefix(t, k.b, k.cutoffs)
			checkComplete(t, k.b, k.cutoffs, true)
			if rule, cutoffs, ok := rulePrefix(k.b.n, k.b.start); !ok || !sameUnfolding(rule.u, k.b.u) || !slices.Equal(cutoffs, k.cutoffs) || !k.b.isRuleComplete(cutoffs) {
				t.Errorf("the case is wrong: %v %v %v", rule.u, cutoffs, ok)
			}
		})
	}
}

// TestEqualExtensions has possible extensions that are equal in the order, of one transition and of two.
func TestEqualExtensions(t *testing.T) {
	b := takingTurns()
	for count, equal := range map[int][]impl.Event{2: {event(0, 0, 6), event(1, 1, 4)}, 4: {event(2, 3, 9), event(2, 5, 7)}} {
		shorter := unfolded(b.n, b.start, b.u.Events[:count]...)
		if got := shorter.ruleExtensions(); !sameEvents(got, equal) || shorter.ruleCompare(equal[0], equal[1]) != 0 {
			t.Errorf("the case is wrong: %v", got)
		}
	}
	checkPrefix(t, b, nil)
	// Both transitions in the other order: the first extension has the greater condition.
	other := unfolded(net(6, move([]int{2, 3}, []int{5}), move([]int{1, 4}, []int{3, 4}), move([]int{0, 4}, []int{2, 4})), "110010",
		event(1, 1, 2), event(2, 0, 2), event(1, 1, 6), event(2, 0, 4), event(0, 3, 9), event(0, 5, 7))
	checkPrefix(t, other, nil)
}

// bitPlaces are the marked places of a counter: for bit i place 2*i if it is 0, and the next one if it is 1.
func bitPlaces(value, bits int) (places []int) {
	for i := range bits {
		places = append(places, 2*i+value>>i&1)
	}
	return places
}

// counter counts from a value up to the greatest number of so many bits, and ends there.
func counter(bits, value int) impl.STG {
	marked := 0
	for _, p := range bitPlaces(value, bits) {
		marked |= 1 << p
	}
	var l []impl.Transition
	for i := range bits {
		l = append(l, move(bitPlaces(1<<i-1, i+1), bitPlaces(1<<i, i+1)))
	}
	return unlabelled(markOf(2*bits, marked), l...)
}

// kept adds a marked place that some transitions put back.
func kept(s impl.STG, transitions ...int) impl.STG {
	s = with(s, "1")
	for _, i := range transitions {
		t := s.Net.Transitions[i]
		s.Net.Transitions[i] = move(append(slices.Clone(t.Pre), s.Net.Places-1), append(slices.Clone(t.Post), s.Net.Places-1))
	}
	return s
}

func checkSizes(t *testing.T, s impl.STG, events, conditions int, cutoffs ...int) {
	t.Helper()
	p, ok := impl.CompletePrefix(s.Net, s.Start)
	if !ok || len(p.U.Events) != events || len(p.U.Conditions) != conditions || !slices.Equal(p.Cutoffs, cutoffs) {
		t.Errorf("CompletePrefix of %v from %q: %d events, %d conditions, %v %v", s.Net, s.Start, len(p.U.Events), len(p.U.Conditions), p.Cutoffs, ok)
	}
	if is, ok := impl.IsCompletePrefix(s.Net, s.Start, p); !ok || !is {
		t.Errorf("IsCompletePrefix of %v from %q: %v %v", s.Net, s.Start, is, ok)
	}
}

func TestPrefixEventLimit(t *testing.T) {
	checkSizes(t, counter(3, 0), 7, 3+11)
	checkSizes(t, counter(6, 4), 59, 6+113)
	checkSizes(t, counter(6, 3), impl.MaxEvents, 6+116)
	checkNoPrefix(t, counter(6, 2).Net, counter(6, 2).Start)
	// The last event leads back to the start and is a cut-off event; what follows it does not count.
	back := func(value int) impl.STG {
		return with(counter(6, value), "", move(bitPlaces(63, 6), bitPlaces(value, 6)))
	}
	checkSizes(t, back(4), impl.MaxEvents, 6+113+6, 59)
	checkNoPrefix(t, back(3).Net, back(3).Start)
	checkNoPrefix(t, back(0).Net, back(0).Start)
	// Two counters side by side: there are several possible extensions until the end.
	checkSizes(t, beside(counter(5, 1), counter(5, 1)), impl.MaxEvents, 2*(5+56))
	for _, over := range []impl.STG{beside(counter(5, 0), counter(5, 1)), beside(counter(5, 1), counter(5, 0))} {
		checkNoPrefix(t, over.Net, over.Start)
	}
}

// beside returns two graphs side by side.
func beside(first, second impl.STG) impl.STG {
	return with(first, second.Start, shifted(second.Net.Transitions, first.Net.Places)...)
}

func shifted(l []impl.Transition, by int) []impl.Transition {
	moved := make([]impl.Transition, len(l))
	for i, t := range l {
		for _, p := range t.Pre {
			moved[i].Pre = append(moved[i].Pre, p+by)
		}
		for _, p := range t.Post {
			moved[i].Post = append(moved[i].Post, p+by)
		}
	}
	return moved
}

// TestPrefixConditionLimit adds marked places that the transitions of a counter put back.
func TestPrefixConditionLimit(t *testing.T) {
	s := counter(3, 0)
	for range 23 {
		s = kept(s, 0, 1, 2)
	}
	checkSizes(t, s, 7, 198)
	checkSizes(t, kept(s), 7, 199)
	checkSizes(t, kept(s, 2), 7, impl.MaxConditions)
	for _, over := range []impl.STG{kept(s, 1), kept(s, 0), kept(s, 0, 1, 2)} {
		checkNoPrefix(t, over.Net, over.Start)
	}
	// The conditions of a cut-off event count: transition 3 leads from 7 back to 0.
	s = with(counter(3, 0), "", move(bitPlaces(7, 3), bitPlaces(0, 3)))
	for range 20 {
		s = kept(s, 0, 1, 2, 3)
	}
	checkSizes(t, s, 8, 197, 7)
	checkSizes(t, kept(kept(kept(s))), 8, impl.MaxConditions, 7)
	checkSizes(t, kept(kept(s), 3), 8, impl.MaxConditions, 7)
	for _, over := range []impl.STG{kept(kept(s, 3), 3), kept(kept(kept(kept(s)))), kept(kept(kept(s)), 3)} {
		checkNoPrefix(t, over.Net, over.Start)
	}
}

func TestUnsafePrefixes(t *testing.T) {
	for name, s := range map[string]impl.STG{
		"a transition of the document":         with(rings(3), "", move([]int{0}, []int{0, 1})),
		"a marked place":                       unlabelled("11", move([]int{0}, []int{1})),
		"by a cut-off event":                   unlabelled("10", move([]int{0}, []int{0, 1})),
		"by an event back to the start":        unlabelled("11", move([]int{0}, []int{0, 1})),
		"by two concurrent events":             unlabelled("1100", move([]int{0}, []int{2}), move([]int{1}, []int{2})),
		"far off":                              unlabelled("11000", move([]int{0}, []int{2}), move([]int{2}, []int{3}), move([]int{1}, []int{4}), move([]int{4}, []int{3})),
		"two tokens take one way":              unlabelled("110", move([]int{0}, []int{1}), move([]int{1}, []int{2})),
		"more and more tokens":                 unlabelled("1000", move([]int{0}, []int{0, 1}), move([]int{1}, []int{2}), move([]int{2}, []int{3})),
		"in the last of many places":           with(rings(2, 3), "0", move([]int{1}, []int{5}), move([]int{3}, []int{5})),
		"a place that is never consumed":       with(rings(2), "0", move([]int{0}, []int{1, 2})),
		"after a cycle of the safe part":       unlabelled("1000", move([]int{0}, []int{1, 2}), move([]int{1}, []int{0}), move([]int{3}, nil)),
		"a transition that no marking enables": with(unlabelled("11", move([]int{0}, []int{1})), "0", move([]int{2}, nil)),
	} {
		t.Run(name, func(t *testing.T) {
			checkNoPrefix(t, s.Net, s.Start)
			if trace, ok := impl.UnsafeTrace(s); !ok {
				t.Errorf("the case is wrong: %v", trace)
			}
		})
	}
	for name, s := range map[string]impl.STG{
		"one place in conflict":                      unlabelled("100", move([]int{0}, []int{1, 2}), move([]int{0}, []int{1, 2})),
		"one place again and again":                  unlabelled("100", move([]int{0}, []int{1}), move([]int{1}, []int{0})),
		"a place put back":                           unlabelled("11", move([]int{0, 1}, []int{1})),
		"an unsafe transition that is never enabled": unlabelled("110", move([]int{0, 2}, []int{1})),
	} {
		t.Run(name, func(t *testing.T) {
			b, cutoffs, ok := rulePrefix(s.Net, s.Start)
			if !ok {
				t.Error("the case is wrong")
			}
			checkPrefix(t, b, cutoffs)
		})
	}
}

// TestManyOpenExtensions has millions of possible extensions at once, where 60 of them are already too many.
func TestManyOpenExtensions(t *testing.T) {
	const parts = 10
	var all impl.Transition
	var l []impl.Transition
	for i := range parts {
		l = append(l, move([]int{3 * i, 3*i + 1}, []int{3 * i}), move([]int{3 * i, 3*i + 2}, []int{3 * i}))
		all.Pre = append(all.Pre, 3*i)
	}
	n, start := net(3*parts, append(l, all)...), strings.Repeat("1", 3*parts)
	checkNoPrefix(t, n, start)
	checkNoPrefix(t, net(3*parts, append([]impl.Transition{all}, l...)...), start)
	b := unfolded(n, start)
	for by := range 2 * parts {
		b = b.plus(event(by, by/2*3, by/2*3+1+by%2))
	}
	for by := range 2 * parts {
		b = b.plus(event(by, by/2*3+1+by%2, 3*parts+by^1))
	}
	if !b.isValid() || len(b.ruleCutoffs()) > 0 {
		t.Fatal("the case is wrong")
	}
	checkComplete(t, b, nil, false)
}

func TestIsCompletePrefixCutoffs(t *testing.T) {
	ways := net(3, move([]int{0}, []int{1}), move([]int{0}, []int{1}), move([]int{0}, []int{2}), move([]int{1}, []int{0}), move([]int{2}, []int{1}))
	b := unfolded(ways, "100", event(0, 0), event(1, 0), event(2, 0), event(3, 1), event(4, 3))
	checkComplete(t, b, []int{1, 3, 4}, true)
	checkComplete(t, b, withSpare([]int{1, 3, 4}), true)
	for name, cutoffs := range map[string][]int{
		"nil": nil, "empty": {}, "the first one is missing": {3, 4}, "one in between is missing": {1, 4}, "the last one is missing": {1, 3}, "only one": {3},
		"one too many in front": {0, 1, 3, 4}, "one too many in between": {1, 2, 3, 4}, "all": {0, 1, 2, 3, 4}, "another one": {1, 2, 4}, "another one in front": {0, 3, 4},
		"the first one twice": {1, 1, 3, 4}, "one twice": {1, 3, 3, 4}, "the last one twice": {1, 3, 4, 4}, "decreasing": {4, 3, 1}, "two exchanged": {3, 1, 4}, "the last two exchanged": {1, 4, 3},
		"a negative one": {-1, 1, 3, 4}, "no such event": {1, 3, 4, 5}, "the limit": {1, 3, 4, 60}, "a word": {1, 3, 4, 64}, "a word and one": {1, 3, 4, 65}, "instead of one": {1, 3, 68}, "far off": {math.MinInt, 1, 3, 4, math.MaxInt},
		"very many": slices.Repeat([]int{1, 3, 4}, 10000),
	} {
		t.Run(name, func(t *testing.T) { checkComplete(t, b, cutoffs, false) })
	}
	for _, cutoffs := range [][]int{{0}, {1}, {0, 2}, {1, 2}, {0, 1, 2}, {2, 2}, {2, 3}, {-1, 2}} {
		checkComplete(t, prefixR(), cutoffs, false)
	}
	checkComplete(t, takingTurns(), nil, true)
	checkComplete(t, takingTurns(), []int{}, true)
	for e := range 6 {
		checkComplete(t, takingTurns(), []int{e}, false)
	}
}

func TestIsCompletePrefixEvents(t *testing.T) {
	ways := net(3, move([]int{0}, []int{1}), move([]int{0}, []int{1}), move([]int{1}, []int{2}))
	for name, k := range map[string]struct {
		b    branching
		want bool
	}{
		"the ring":                                {prefixR(), true},
		"an event behind a cut-off event":         {prefixR().plus(event(0, 3)), false},
		"a whole round behind it":                 {prefixR().plus(event(0, 3), event(1, 4), event(2, 5)), false},
		"one is left over":                        {unfolded(netR(), "100", event(0, 0), event(1, 1)), false},
		"nothing but what is left over":           {unfolded(netR(), "100"), false},
		"no events, nothing is enabled":           {unfolded(netR(), "000"), true},
		"no events, no transitions":               {unfolded(net(2), "10"), true},
		"two ways":                                {unfolded(ways, "100", event(0, 0), event(1, 0), event(2, 1)), true},
		"behind the way that is cut":              {unfolded(ways, "100", event(0, 0), event(1, 0), event(2, 2)), false},
		"behind both ways":                        {unfolded(ways, "100", event(0, 0), event(1, 0), event(2, 1), event(2, 2)), false},
		"behind neither of the ways":              {unfolded(ways, "100", event(0, 0), event(1, 0)), false},
		"one way":                                 {unfolded(ways, "100", event(0, 0), event(2, 1)), false},
		"the way that is cut comes first":         {unfolded(ways, "100", event(1, 0), event(0, 0), event(2, 2)), true},
		"it comes first, and something follows":   {unfolded(ways, "100", event(1, 0), event(2, 1), event(0, 0), event(2, 3)), false},
		"two orders":                              {takingTurns(), true},
		"without the last event":                  {unfolded(takingTurns().n, "110010", takingTurns().u.Events[:5]...), false},
		"a condition of a cut-off event, another": {unfolded(net(4, move([]int{0}, []int{0}), move([]int{1}, []int{2}), move([]int{0, 2}, []int{3})), "1100", event(0, 0), event(1, 1), event(2, 0, 3)), true},
		"both are needed, neither is cut":         {unfolded(net(4, move([]int{0}, []int{0}), move([]int{1}, []int{2}), move([]int{0, 2}, []int{3})), "1100", event(0, 0), event(1, 1)), false},
		// The words of IsCompletePrefix do not ask for a safe net.
		"a net that is not safe":                     {unfolded(net(2, move([]int{0}, []int{1})), "11", event(0, 0)), true},
		"a net that is not safe, one is left over":   {unfolded(net(3, move([]int{0}, []int{1}), move([]int{1}, []int{2})), "110", event(0, 0), event(1, 1)), false},
		"a net that is not safe, and all its events": {unfolded(net(3, move([]int{0}, []int{1}), move([]int{1}, []int{2})), "110", event(0, 0), event(1, 1), event(1, 2)), true},
	} {
		t.Run(name, func(t *testing.T) {
			checkComplete(t, k.b, k.b.ruleCutoffs(), k.want)
			if k.b.isRuleComplete(k.b.ruleCutoffs()) != k.want {
				t.Error("the case is wrong")
			}
		})
	}
}

func TestCausalDepth(t *testing.T) {
	fork := net(6, move([]int{0}, []int{1, 2}), move([]int{1}, []int{3}), move([]int{3}, []int{4}), move([]int{2, 4}, []int{5}), move([]int{2}, nil))
	for want, l := range map[int][]branching{
		0: {unfolded(netR(), "100"), unfolded(netR(), "000"), unfolded(net(2), "11")},
		1: {unfolded(netR(), "100", event(0, 0)), unfolded(rings(2, 2, 2).Net, "101010", event(0, 0), event(2, 1), event(4, 2)), unfolded(choices(), "10000100", event(0, 0), event(1, 0))},
		2: {netU(), choicesTaken(), unfolded(fork, "100000", event(0, 0), event(4, 2), event(1, 1))},
		3: {prefixR(), takingTurns(), choicesTaken().plus(event(5, 4, 6)), unfolded(fork, "100000", event(0, 0), event(1, 1), event(2, 3), event(4, 2))},
		4: {unfolded(fork, "100000", event(0, 0), event(1, 1), event(2, 3), event(3, 2, 4)), unfolded(fork, "100000", event(0, 0), event(4, 2), event(1, 1), event(2, 3), event(3, 2, 4)), prefixR().plus(event(0, 3))},
	} {
		for _, b := range l {
			checkDepth(t, b, want)
			if b.ruleDepth() != want {
				t.Errorf("the case is wrong: %v", b)
			}
		}
	}
	long := unfolded(net(1, move([]int{0}, []int{0})), "1")
	for i := range impl.MaxEvents {
		long = long.plus(event(0, i))
		checkDepth(t, long, i+1)
	}
}

func TestEventTexts(t *testing.T) {
	for want, b := range map[string]branching{
		"":                   unfolded(netR(), "100"),
		"0:0; 1:1; 2:2":      prefixR(),
		"0:0":                unfolded(netR(), "100", event(0, 0)),
		"1:0; 0:0; 2:2; 2:1": unfolded(net(3, move([]int{0}, []int{1}), move([]int{0}, []int{1}), move([]int{1}, nil)), "100", event(1, 0), event(0, 0), event(2, 2), event(2, 1)),
		"0:0,2; 1:1,2; 0:0,6; 1:1,4; 2:3,9; 2:5,7":                    takingTurns(),
		"0:0; 1:0; 2:2; 3:3; 4:1; 5:4,6":                              choicesTaken().plus(event(5, 4, 6)),
		"23:0,1,2,3,4,5,6,7,8,9,10,11,12; 22:13":                      unfolded(wideNet(), strings.Repeat("1", 30), event(23, upTo(13)...), event(22, 13)),
		"0:0; 0:1; 0:2; 0:3; 0:4; 0:5; 0:6; 0:7; 0:8; 0:9; 0:10; 1:5": unfolded(net(1, move([]int{0}, []int{0}), move([]int{0}, nil)), "1", append(inARow(11), event(1, 5))...),
	} {
		checkEventText(t, b, want)
		if b.ruleText() != want || !b.isValid() {
			t.Errorf("the case is wrong: %q", want)
		}
	}
	checkEventText(t, unfolded(net(2), "11"), "")
	checkEventText(t, unfolded(net(2), "00"), "")
}

// inARow has occurrences of transition 0, each of which consumes what the one before it put back.
func inARow(count int) (l []impl.Event) {
	for i := range count {
		l = append(l, event(0, i))
	}
	return l
}

func wideNet() impl.Net {
	n := repeated(30, impl.MaxTransitions)
	for i := range n.Transitions {
		n.Transitions[i] = move([]int{13}, []int{i})
	}
	n.Transitions[23] = move(upTo(13), nil)
	return n
}

func TestRefusedEventTexts(t *testing.T) {
	for _, text := range []string{
		// Not of the form.
		" ", "0", ":", "0:", ":0", "0:0;", "0:0; ", "; 0:0", ";", "; ", "0:0; ; 1:1", "0:0;; 1:1", "0:0;1:1", "0:0;  1:1", "0:0 ; 1:1", "0:0 1:1", "0:0, 1:1", "0:0,1:1", "0:0 ;1:1", "0:0\n1:1", "0:0\n", "0:0; 1:1; ",
		" 0:0", "0:0 ", "0 :0", "0: 0", "0:0; 1: 1", "0:0;\t1:1", "\t0:0", "0:0\x00", "\x000:0", "0::0", "0:0:", "0:0:0", ":0:0", "0:0,", "0:,0", "0:,", "0,0", "0;0", "0.0", "0:0.", "0:0; 1:1,", "0:0; 1:,1", "0:0; 1,1",
		"+0:0", "0:+0", "-0:0", "0:-0", "0:0; +1:1", "0:0; 1:+1", "0:0; -1:1", "0:0; 1:-1", "00:0", "0:00", "0:0; 01:1", "0:0; 1:01", "0x0:0", "0:0x0", "0:0_0", "0:0; 1:0_1", "a:0", "0:a", "0:0; b:1", "\u0660:0", "0:\u0660",
		"0:0; 1:1e0", "0:0; 1:1.0", "[0:0]", "\"0:0\"", "T:0", "0:99999999999999999999", "99999999999999999999:0", "0:0; 1:18446744073709551617", "18446744073709551616:0",
		// Not possible.
		"1:0", "2:0", "0:1", "1:1", "0:0; 1:0", "0:0; 0:1", "0:0; 2:1", "0:0; 1:2", "0:0; 0:0", "0:0; 1:1; 1:1", "0:0; 1:1; 0:0", "1:1; 0:0", "0:0; 2:2; 1:1", "0:0; 1:0,1", "0:0,0", "0:0,1", "0:0; 1:1,1", "0:0; 1:1; 2:2; 1:3",
		"3:0", "23:0", "24:0", "25:0", "100:0", "0:30", "0:199", "0:200", "0:201", "0:0; 1:1; 2:2; 3:3", "0:0; 1:1; 2:2; 0:4", "9223372036854775807:0", "0:9223372036854775807",
	} {
		checkNoEventText(t, netR(), "100", text)
	}
	checkNoEventText(t, netR(), "000", "0:0")
	checkNoEventText(t, netR(), "010", "0:0; 1:1; 2:2")
	checkNoEventText(t, net(1), "1", "0:0")
	checkEventText(t, unfolded(net(3, move([]int{0, 1}, []int{2})), "110", event(0, 0, 1)), "0:0,1")
	for _, text := range []string{"0:1,0", "0:0", "0:1", "0:0,0", "0:0,1,2", "0:0;1", "0:0, 1", "0:0,,1", "0:0 1", "0:01", "0:0,1,", "0:0,01", "0:0,1; 0:0,1"} {
		checkNoEventText(t, net(3, move([]int{0, 1}, []int{2})), "110", text)
	}
	for _, text := range []string{"0:0; 1:0; 6:2,3", "0:0; 1:0; 2:2; 3:3; 6:4,5", "0:0; 8:0,2", "0:0; 2:2; 7:0,4"} {
		checkNoEventText(t, choices(), "10000100", text)
	}
}

func TestEventTextLimits(t *testing.T) {
	// All 24 transitions compete for 30 places, but some of them do not need all: the whole text has 2004 bytes.
	full := func(without ...int) branching {
		n := repeated(impl.MaxPlaces, impl.MaxTransitions)
		var l []impl.Event
		for i := range n.Transitions {
			pre := upTo(impl.MaxPlaces)
			if i < len(without) {
				pre = slices.Delete(pre, without[i], without[i]+1)
			}
			n.Transitions[i] = move(pre, nil)
			l = append(l, event(i, pre...))
		}
		return unfolded(n, strings.Repeat("1", impl.MaxPlaces), l...)
	}
	for _, b := range []branching{full(3, 4), full(3, 4, 5), full(29, 3)} {
		text := b.ruleText()
		if len(text) > 2000 || len(text) < 1998 {
			t.Errorf("the case is wrong: %d bytes", len(text))
		}
		checkEventText(t, b, text)
	}
	if text := full(3, 4).ruleText(); len(text) != 2000 {
		t.Errorf("the case is wrong: %d bytes", len(text))
	}
	for i, b := range []branching{full(29), full(3), full()} {
		text := b.ruleText()
		if len(text) != []int{2001, 2002, 2004}[i] || !b.isValid() {
			t.Errorf("the case is wrong: %d bytes", len(text))
		}
		if got, ok := impl.FormatEvents(b.n, b.start, b.u); !ok || got != text {
			t.Errorf("FormatEvents of %v: %q %v", b, got, ok)
		}
		checkNoEventText(t, b.n, b.start, text)
	}
	n := net(1, move([]int{0}, []int{0}))
	checkEventText(t, unfolded(n, "1", inARow(impl.MaxEvents)...), unfolded(n, "1", inARow(impl.MaxEvents)...).ruleText())
	for _, count := range []int{61, 64, 65, 66, 130, 240} {
		checkNoEventText(t, n, "1", unfolded(n, "1", inARow(count)...).ruleText())
	}
	// 200 conditions and more: see TestConditionLimit.
	all := upTo(impl.MaxPlaces)
	wide := net(impl.MaxPlaces, move([]int{0}, all), move([]int{0}, all[:19]), move([]int{0}, all[:20]), move([]int{18}, nil))
	const rounds = "0:0; 0:1; 0:31; 0:61; 0:91; 0:121; "
	start := "1" + strings.Repeat("0", impl.MaxPlaces-1)
	if got, ok := impl.ParseEvents(wide, start, rounds+"1:151"); !ok || len(got.Conditions) != impl.MaxConditions {
		t.Errorf("ParseEvents of 200 conditions: %d %v", len(got.Conditions), ok)
	}
	if got, ok := impl.ParseEvents(wide, start, rounds+"1:151; 3:199"); !ok || !sameEvents(got.Events[7:], []impl.Event{event(3, 199)}) {
		t.Errorf("ParseEvents of the last of 200 conditions: %v %v", got, ok)
	}
	checkNoEventText(t, wide, start, rounds+"1:151; 3:200")
	checkNoEventText(t, wide, start, rounds+"2:151")
	checkNoEventText(t, wide, start, rounds+"0:151")
	for _, text := range []string{strings.Repeat("0", 2000), strings.Repeat("0", 2001), strings.Repeat("0:0; ", 400), strings.Repeat("0:0; ", 100000), strings.Repeat(":", 2000), strings.Repeat(",", 2000), "0:" + strings.Repeat("0,", 999), strings.Repeat("; ", 1000)} {
		checkNoEventText(t, n, "1", text)
	}
}

// checkOrder checks promise 8 for all events: the order is a strict partial order that extends causality.
func checkOrder(t *testing.T, b branching) {
	t.Helper()
	count := len(b.u.Events)
	order := make([][]int, count)
	for e := range count {
		for f := range count {
			got, ok := impl.CompareEvents(b.n, b.start, b.u, e, f)
			order[e] = append(order[e], got)
			relation, _ := impl.EventRelation(b.n, b.start, b.u, e, f)
			if !ok || relation == impl.RelBefore && got != -1 || relation == impl.RelAfter && got != 1 || relation == impl.RelEqual && got != 0 {
				t.Errorf("CompareEvents of %d and %d in %v: %d %v, relation %d", e, f, b, got, ok, relation)
			}
		}
	}
	for e := range count {
		for f := range count {
			if order[e][f] != -order[f][e] {
				t.Errorf("CompareEvents of %d and %d in %v: %d and %d", e, f, b, order[e][f], order[f][e])
			}
			for g := range count {
				if order[e][f] <= 0 && order[f][g] <= 0 && order[e][g] != min(order[e][f], order[f][g]) {
					t.Errorf("CompareEvents of %d, %d and %d in %v: %v", e, f, g, b, order)
				}
			}
		}
	}
}

// checkEventsByRules compares all results for a valid unfolding with the document's words. It returns the number of cut-off events.
func checkEventsByRules(t *testing.T, b branching) (cut int) {
	t.Helper()
	for e := range b.u.Events {
		checkLocalMarking(t, b, e, b.ruleLocalMarking(e))
		for f := range b.u.Events {
			checkCompare(t, b, e, f, b.ruleCompare(b.u.Events[e], b.u.Events[f]))
		}
		companion, is := b.ruleCompanion(e)
		checkCompanion(t, b, e, companion, is)
		if is {
			cut++
		}
	}
	checkOrder(t, b)
	checkDepth(t, b, b.ruleDepth())
	checkEventText(t, b, b.ruleText())
	cutoffs := b.ruleCutoffs()
	checkComplete(t, b, cutoffs, b.isRuleComplete(cutoffs))
	return cut
}

func TestEventsByRules(t *testing.T) {
	x := numbers(51)
	cut, large := 0, 0
	for range 1200 {
		b := someBranching(&x, 9)
		cut += checkEventsByRules(t, b)
		if len(b.u.Events) > 6 {
			large++
		}
	}
	if cut < 1500 || large < 200 {
		t.Errorf("only %d cut-off events, %d large unfoldings", cut, large)
	}
}

// reordered has the same events in another order, in which each still follows its causes.
func (b branching) reordered(x *numbers) branching {
	other := unfolded(b.n, b.start)
	place := map[int]int{}
	for c := range other.u.Conditions {
		place[c] = c
	}
	for left := upTo(len(b.u.Events)); len(left) > 0; {
		i := x.below(len(left))
		e := b.u.Events[left[i]]
		var pre []int
		for _, c := range e.Pre {
			if k, isThere := place[c]; isThere {
				pre = append(pre, k)
			}
		}
		if len(pre) < len(e.Pre) {
			continue
		}
		slices.Sort(pre)
		next := len(other.u.Conditions)
		other = other.plus(event(e.T, pre...))
		for c, k := range b.u.Conditions {
			if k.By == left[i] {
				place[c] = next
				next++
			}
		}
		left = slices.Delete(left, i, i+1)
	}
	return other
}

// checkDamagedPrefix compares prefixes that are complete, and some that are not quite.
func checkDamagedPrefix(t *testing.T, x *numbers, b branching, cutoffs []int) (complete int) {
	t.Helper()
	other := b.reordered(x)
	for _, k := range []branching{b, other, unfolded(b.n, b.start, b.u.Events[:max(0, len(b.u.Events)-1)]...), unfolded(b.n, b.start, other.u.Events[:max(0, len(b.u.Events)-1)]...)} {
		rule := k.ruleCutoffs()
		want := k.isRuleComplete(rule)
		checkComplete(t, k, rule, want)
		if want {
			complete++
		}
		if len(rule) > 0 {
			i := x.below(len(rule))
			checkComplete(t, k, slices.Delete(slices.Clone(rule), i, i+1), false)
			checkComplete(t, k, slices.Insert(slices.Clone(rule), i, rule[i]), false)
		}
		if e := x.below(len(k.u.Events) + 1); !slices.Contains(rule, e) {
			checkComplete(t, k, slices.Sorted(slices.Values(append(slices.Clone(rule), e))), false)
		}
	}
	if !slices.Equal(b.ruleCutoffs(), cutoffs) {
		t.Errorf("the cut-off events of %v: %v, not %v", b, cutoffs, b.ruleCutoffs())
	}
	for _, e := range b.ruleExtensions() {
		longer := b.plus(e)
		checkComplete(t, longer, longer.ruleCutoffs(), false)
		checkComplete(t, longer, cutoffs, false)
	}
	return complete
}

// ruleConfigurations are the configurations without a cut-off event, those with fewer events first.
func (b branching) ruleConfigurations(cutoffs []int) (all [][]int) {
	seen := map[int]bool{0: true}
	for work := []int{0}; len(work) > 0; work = work[1:] {
		list := setOfPlaces(work[0])
		all = append(all, list)
		for e := range b.u.Events {
			next := work[0] | 1<<e
			if !seen[next] && !slices.Contains(cutoffs, e) && b.isRuleConfiguration(append(slices.Clone(list), e)) {
				seen[next] = true
				work = append(work, next)
			}
		}
	}
	return all
}

// finalMarkings are those of the configurations without a cut-off event.
func (b branching) finalMarkings(cutoffs []int) map[string]bool {
	marks := map[string]bool{}
	for _, list := range b.ruleConfigurations(cutoffs) {
		marks[b.ruleMarking(b.ruleCut(list))] = true
	}
	return marks
}

// TestPrefixesByRules checks promise 8 on random nets, safe and unsafe.
func TestPrefixesByRules(t *testing.T) {
	x := numbers(52)
	safe, refused, cut, complete := 0, 0, 0, 0
	for range 4000 {
		s := someNetGraph(&x)
		want, cutoffs, ok := rulePrefix(s.Net, s.Start)
		if _, isUnsafe := impl.UnsafeTrace(s); ok && isUnsafe {
			t.Errorf("the prefix of %v from %q does not tell that the net is unsafe", s.Net, s.Start)
		}
		if !ok {
			refused++
			checkNoPrefix(t, s.Net, s.Start)
			continue
		}
		safe++
		checkPrefix(t, want, cutoffs)
		cut += len(cutoffs)
		if len(want.u.Events) <= 12 {
			complete += checkDamagedPrefix(t, &x, want, cutoffs)
			checkEventsByRules(t, want)
			checkReachedMarkings(t, s, want, cutoffs)
		}
	}
	if safe < 2000 || refused < 1000 || cut < 600 || complete < 6000 {
		t.Errorf("only %d prefixes, %d refused, %d cut-off events, %d complete", safe, refused, cut, complete)
	}
}

// checkReachedMarkings checks that the prefix shows exactly the reachable markings.
func checkReachedMarkings(t *testing.T, s impl.STG, b branching, cutoffs []int) {
	t.Helper()
	r, ok := impl.Explore(s)
	marks := b.finalMarkings(cutoffs)
	if got := slices.Sorted(maps.Keys(marks)); !ok || !slices.Equal(got, slices.Sorted(slices.Values(r.Marks))) {
		t.Errorf("the markings of %v: %v, not %v %v", b, got, r.Marks, ok)
	}
}

// someSafeGraph returns rings that meet, with some additional transitions and sometimes a token for which two transitions take turns. Most of them are safe.
func someSafeGraph(x *numbers) impl.STG {
	s := rings([][]int{{2, 3}, {3, 3}, {2, 2, 2}, {2, 4}, {3, 2, 2}}[x.below(5)]...)
	places := len(s.Start)
	for range 1 + x.below(3) {
		p, q := x.below(places), x.below(places)
		pair := slices.Compact([]int{min(p, q), max(p, q)})
		s = with(s, "", move(pair, [][]int{pair, {p}, {q}, {(p + 1) % places}}[x.below(4)]))
	}
	if x.below(2) == 0 {
		s = kept(s, 0, 2+x.below(places-2))
	}
	return s
}

func TestSafePrefixes(t *testing.T) {
	x := numbers(53)
	safe, large, tied := 0, 0, 0
	for range 400 {
		s := someSafeGraph(&x)
		b, cutoffs, ok := rulePrefix(s.Net, s.Start)
		if !ok {
			checkNoPrefix(t, s.Net, s.Start)
			continue
		}
		safe++
		checkPrefix(t, b, cutoffs)
		if len(b.u.Events) > 15 {
			large++
			continue
		}
		checkDamagedPrefix(t, &x, b, cutoffs)
		checkReachedMarkings(t, s, b, cutoffs)
		for e := range b.u.Events {
			for f := range e {
				if b.ruleCompare(b.u.Events[e], b.u.Events[f]) == 0 {
					tied++
				}
			}
		}
	}
	if safe < 100 || large < 10 || tied < 10 {
		t.Errorf("only %d safe nets, %d of more than 15 events, %d pairs of equal events", safe, large, tied)
	}
}

// checkSomeText compares with the only text that has these events, and reports whether a text was accepted.
func checkSomeText(t *testing.T, n impl.Net, start, text string) bool {
	t.Helper()
	got, ok := impl.ParseEvents(n, start, text)
	if !ok {
		if !isZeroUnfolding(got) {
			t.Errorf("ParseEvents of %q: %v %v", text, got, ok)
		}
		return false
	}
	b := branching{n, start, got}
	if !b.isRuleValid() || b.ruleText() != text {
		t.Errorf("ParseEvents of %q: %v %v", text, got, ok)
	}
	return true
}

// TestEventTextsOneByteOff changes texts in one place, which may lead to the text of another unfolding.
func TestEventTextsOneByteOff(t *testing.T) {
	x := numbers(54)
	accepted, refused := 0, 0
	for range 60 {
		b := someBranching(&x, 6)
		text := b.ruleText()
		for i := range len(text) + 1 {
			for _, other := range []byte("0123456789:,; +-x\n\x00") {
				for _, changed := range []string{text[:i] + string(other) + text[i:], text[:i] + string(other) + text[min(i+1, len(text)):], text[:i] + text[min(i+1, len(text)):]} {
					if checkSomeText(t, b.n, b.start, changed) {
						accepted++
					} else {
						refused++
					}
				}
			}
		}
	}
	if accepted < 200 || refused < 10000 {
		t.Errorf("only %d texts accepted, %d refused", accepted, refused)
	}
}

// TestSpoiledEventTexts takes texts of events some of which are not possible.
func TestSpoiledEventTexts(t *testing.T) {
	x := numbers(55)
	accepted, refused := 0, 0
	for range 3000 {
		b := spoiled(&x, someBranchingWithTransitions(&x))
		rebuilt := unfolded(b.n, b.start, b.u.Events...)
		want := rebuilt.isRuleValid()
		if checkSomeText(t, b.n, b.start, b.ruleText()) != want {
			t.Errorf("ParseEvents of %q for %v from %q: not %v", b.ruleText(), b.n, b.start, want)
		}
		if want {
			accepted++
		} else {
			refused++
		}
	}
	if accepted < 500 || refused < 500 {
		t.Errorf("only %d texts accepted, %d refused", accepted, refused)
	}
}

// checkNoPrefixOf checks that every result for an invalid net, marking or unfolding is zero.
func checkNoPrefixOf(t *testing.T, b branching) {
	t.Helper()
	defer mustNotPanic(t, "a function of chapter 8")
	for e := range 3 {
		if got, ok := impl.LocalMarking(b.n, b.start, b.u, e); ok || got != "" {
			t.Errorf("LocalMarking of %d in %v: %q %v", e, b, got, ok)
		}
		if got, ok := impl.CutoffCompanion(b.n, b.start, b.u, e); ok || got != 0 {
			t.Errorf("CutoffCompanion of %d in %v: %d %v", e, b, got, ok)
		}
		for f := range 3 {
			if got, ok := impl.CompareEvents(b.n, b.start, b.u, e, f); ok || got != 0 {
				t.Errorf("CompareEvents of %d and %d in %v: %d %v", e, f, b, got, ok)
			}
		}
	}
	for _, cutoffs := range [][]int{nil, {2}, {0, 1, 2}} {
		if got, ok := impl.IsCompletePrefix(b.n, b.start, impl.Prefix{U: b.u, Cutoffs: cutoffs}); ok || got {
			t.Errorf("IsCompletePrefix of %v: %v %v", b, got, ok)
		}
	}
	if got, ok := impl.CausalDepth(b.n, b.start, b.u); ok || got != 0 {
		t.Errorf("CausalDepth of %v: %d %v", b, got, ok)
	}
	if got, ok := impl.FormatEvents(b.n, b.start, b.u); ok || got != "" {
		t.Errorf("FormatEvents of %v: %q %v", b, got, ok)
	}
}

func TestInvalidPrefixes(t *testing.T) {
	for name, change := range map[string]func(b *branching){
		"a condition is missing":       func(b *branching) { b.u.Conditions = b.u.Conditions[:3] },
		"a condition is left over":     func(b *branching) { b.u.Conditions = append(b.u.Conditions, condition(0, 2)) },
		"no conditions":                func(b *branching) { b.u.Conditions = nil },
		"By is another event":          func(b *branching) { b.u.Conditions[3].By = 1 },
		"another place":                func(b *branching) { b.u.Conditions[3].Place = 1 },
		"an event twice":               func(b *branching) { *b = b.plus(event(2, 2)) },
		"an event that is impossible":  func(b *branching) { *b = b.plus(event(1, 3)) },
		"no such transition":           func(b *branching) { b.u.Events[2].T = 3 },
		"no such condition":            func(b *branching) { b.u.Events[2].Pre = []int{4} },
		"a cause behind its effect":    func(b *branching) { *b = unfolded(b.n, b.start, event(1, 1), event(0, 0), event(2, 2)) },
		"61 events":                    func(b *branching) { *b = unfolded(net(1, move([]int{0}, []int{0})), "1", inARow(61)...) },
		"very many events":             func(b *branching) { b.u.Events = slices.Repeat(b.u.Events, 3000) },
		"another marking":              func(b *branching) { b.start = "010" },
		"a marking that is too short":  func(b *branching) { b.start = "10" },
		"a marking that is too long":   func(b *branching) { b.start = "1000" },
		"a marking with another byte":  func(b *branching) { b.start = "1x0" },
		"no marking":                   func(b *branching) { b.start = "" },
		"another net":                  func(b *branching) { b.n = netN() },
		"an invalid net":               func(b *branching) { b.n.Transitions[0].Pre = nil },
		"an invalid net, unused place": func(b *branching) { b.n.Transitions = append(b.n.Transitions, move([]int{3}, nil)) },
	} {
		t.Run(name, func(t *testing.T) {
			b := prefixR()
			change(&b)
			checkNoPrefixOf(t, b)
		})
	}
	for _, start := range []string{"", "10", "1000", "1x0", "1 0", "12", "10\x00"} {
		checkNoPrefix(t, netR(), start)
		checkNoEventText(t, netR(), start, "")
		checkNoEventText(t, netR(), start, "0:0")
	}
	for _, n := range invalidNets() {
		for _, start := range []string{"", "1", "10", strings.Repeat("1", max(0, min(n.Places, 40)))} {
			checkNoPrefix(t, n, start)
			checkNoEventText(t, n, start, "")
			checkNoEventText(t, n, start, "0:0")
			checkNoPrefixOf(t, unfolded(n, start))
			checkNoPrefixOf(t, unfolded(n, start, event(0, 0)))
		}
	}
}

// checkPrefixCalls checks promise 29 for chapter 8.
func checkPrefixCalls(t *testing.T, b branching, cutoffs []int, text string, e, f int) {
	t.Helper()
	defer mustNotPanic(t, "a function of chapter 8")
	n, p := netWithSpare(b.n), impl.Prefix{U: unfoldingWithSpare(b.u), Cutoffs: withSpare(cutoffs)}
	beforeN, beforeU, beforeCutoffs := wholeNet(n), wholeUnfolding(p.U), wholeInts(p.Cutoffs)
	impl.LocalMarking(n, b.start, p.U, e)
	impl.CompareEvents(n, b.start, p.U, e, f)
	impl.CutoffCompanion(n, b.start, p.U, e)
	impl.CompletePrefix(n, b.start)
	impl.IsCompletePrefix(n, b.start, p)
	impl.CausalDepth(n, b.start, p.U)
	impl.FormatEvents(n, b.start, p.U)
	impl.ParseEvents(n, b.start, text)
	if !reflect.DeepEqual(wholeNet(n), beforeN) || !reflect.DeepEqual(wholeUnfolding(p.U), beforeU) || !slices.Equal(wholeInts(p.Cutoffs), beforeCutoffs) {
		t.Errorf("an argument has changed: %v %v", b, cutoffs)
	}
}

func TestPrefixNoPanicNoChange(t *testing.T) {
	odd := []int{0, 1, 2, 3, 59, 60, 63, 64, 199, 200, -1, -2, math.MaxInt, math.MinInt}
	x := numbers(56)
	for range 1500 {
		b := someBranchingWithTransitions(&x)
		e, f := odd[x.below(len(odd))], odd[x.below(len(odd))]
		checkPrefixCalls(t, b, b.ruleCutoffs(), b.ruleText(), x.below(len(b.u.Events)+1), x.below(len(b.u.Events)+1))
		checkPrefixCalls(t, spoiled(&x, b), []int{e, f}[:x.below(3)], shuffled(&x, b.ruleText()), e, f)
	}
	for _, n := range append(invalidNets(), netR(), net(1)) {
		for _, start := range []string{"", "1", "100", strings.Repeat("1", max(0, min(n.Places, 40)))} {
			checkPrefixCalls(t, branching{n, start, prefixR().u}, []int{2}, "0:0; 1:1; 2:2", 0, 2)
			checkPrefixCalls(t, branching{n, start, impl.Unfolding{}}, nil, "", 0, 0)
		}
	}
	huge := branching{netR(), "100", impl.Unfolding{Conditions: slices.Repeat(prefixR().u.Conditions, 2000), Events: slices.Repeat(prefixR().u.Events, 2000)}}
	checkPrefixCalls(t, huge, upTo(10000), strings.Repeat("0:0; ", 10000), 5999, 64)
	checkPrefixCalls(t, prefixR(), upTo(10000), strings.Repeat(";", 2000), 5999, 64)
}

// TestPrefixNewMemory checks that no result shares memory with an argument, a later result or another part of itself.
func TestPrefixNewMemory(t *testing.T) {
	source := takingTurns()
	n := netWithSpare(source.n)
	beforeN := wholeNet(n)
	for range 2 {
		p, ok := impl.CompletePrefix(n, source.start)
		if !ok || !sameUnfolding(p.U, source.u) || eventsShare(p.U.Events) {
			t.Errorf("a result of CompletePrefix is kept or shares memory: %v %v", p, ok)
		}
		overwriteEvents(p.U.Events)
		clear(p.U.Conditions[:cap(p.U.Conditions)])
		u, ok := impl.ParseEvents(n, source.start, source.ruleText())
		if !ok || !sameUnfolding(u, source.u) || eventsShare(u.Events) {
			t.Errorf("a result of ParseEvents is kept or shares memory: %v %v", u, ok)
		}
		overwriteEvents(u.Events)
		clear(u.Conditions[:cap(u.Conditions)])
		ring, ok := impl.CompletePrefix(netR(), "100")
		if !ok || !slices.Equal(ring.Cutoffs, []int{2}) {
			t.Errorf("a result of CompletePrefix is kept: %v %v", ring, ok)
		}
		overwriteInts(ring.Cutoffs)
		if !sameUnfolding(ring.U, prefixR().u) {
			t.Errorf("parts of a prefix share memory: %v", ring)
		}
	}
	if !reflect.DeepEqual(wholeNet(n), beforeN) {
		t.Errorf("a result shares memory with an argument: %v", n)
	}
}
