package tests

import (
	"math"
	"reflect"
	"slices"
	"strings"
	"testing"

	"loop.example/g00862/impl"
)

// netC is the net of the document's examples, and prefixC its prefix P.
func netC() impl.Net {
	return net(4, move([]int{0}, []int{2}), move([]int{0}, nil), move([]int{1}, nil))
}

func prefixC() branching {
	return unfolded(netC(), "1100", event(0, 0), event(1, 0), event(2, 1))
}

// swapping has a configuration that leads back to the start, although none of its events does so with its local configuration.
func swapping() branching {
	n := net(8, move([]int{0, 6}, []int{2, 4}), move([]int{1, 7}, []int{3, 5}), move([]int{2, 5}, []int{1, 6}), move([]int{3, 4}, []int{0, 7}))
	return unfolded(n, "11000011", event(0, 0, 2), event(1, 1, 3), event(2, 4, 7), event(3, 5, 6), event(0, 9, 10), event(1, 8, 11))
}

// prefix has the cut-off events of b.
func (b branching) prefix() impl.Prefix {
	return impl.Prefix{U: b.u, Cutoffs: b.ruleCutoffs()}
}

// verdicts are the results for a prefix.
type verdicts struct {
	marks, dead []string
	occurring   []int
	concurrent  [][]int
	conflicting [][]int
}

func isRuleDead(n impl.Net, mark string) bool {
	return !slices.ContainsFunc(n.Transitions, func(t impl.Transition) bool {
		_, isEnabled, _ := ruleFire(mark, t)
		return isEnabled
	})
}

// rulePairs are the pairs of transitions with events for which the relation holds.
func (b branching) rulePairs(areRelated func(e, f int) bool) (pairs [][]int) {
	for u := range b.n.Transitions {
		for t := range u {
			for e := range b.u.Events {
				for f := range b.u.Events {
					if b.u.Events[e].T == t && b.u.Events[f].T == u && areRelated(e, f) {
						pairs = append(pairs, []int{t, u})
					}
				}
			}
		}
	}
	slices.SortFunc(pairs, slices.Compare)
	return slices.CompactFunc(pairs, slices.Equal)
}

func (b branching) isRuleConcurrent(e, f int) bool {
	return b.ruleRelation(e, f) == impl.RelConcurrent
}

func (b branching) isRuleConflict(e, f int) bool {
	union := slices.Clone(b.u.Events[e].Pre)
	isShared := false
	for _, c := range b.u.Events[f].Pre {
		if slices.Contains(union, c) {
			isShared = true
		} else {
			union = append(union, c)
		}
	}
	return isShared && b.isRuleCoSet(union)
}

// ruleVerdicts is what the document says of the prefix of b.
func (b branching) ruleVerdicts() (v verdicts) {
	for mark := range b.finalMarkings(b.ruleCutoffs()) {
		v.marks = append(v.marks, mark)
		if isRuleDead(b.n, mark) {
			v.dead = append(v.dead, mark)
		}
	}
	slices.Sort(v.marks)
	slices.Sort(v.dead)
	for t := range b.n.Transitions {
		if slices.ContainsFunc(b.u.Events, func(e impl.Event) bool { return e.T == t }) {
			v.occurring = append(v.occurring, t)
		}
	}
	v.concurrent = b.rulePairs(b.isRuleConcurrent)
	v.conflicting = b.rulePairs(b.isRuleConflict)
	return v
}

// ruleSequences are the results of FiringSequenceTo for all markings that there are.
func (b branching) ruleSequences() map[string][]int {
	best := map[string][]int{}
	for _, list := range b.ruleConfigurations(b.ruleCutoffs()) {
		var l []int
		for _, e := range list {
			l = append(l, b.u.Events[e].T)
		}
		mark := b.ruleMarking(b.ruleCut(list))
		if old, isThere := best[mark]; !isThere || len(l) < len(old) || len(l) == len(old) && slices.Compare(l, old) < 0 {
			best[mark] = l
		}
	}
	return best
}

// someCounts tells of some of the configurations what makes them hard.
type someCounts struct {
	shared, longer, tied int
}

// countShared counts the markings of several configurations, those of configurations of several sizes, and those that several lists of the least size lead to.
func (b branching) countShared() (counts someCounts) {
	lists := map[string][]string{}
	sizes := map[string][]int{}
	for _, list := range b.ruleConfigurations(b.ruleCutoffs()) {
		mark := b.ruleMarking(b.ruleCut(list))
		text := ""
		for _, e := range list {
			text += string(rune('a' + b.u.Events[e].T))
		}
		lists[mark] = append(lists[mark], text)
		sizes[mark] = append(sizes[mark], len(list))
	}
	for mark, l := range lists {
		least, most := slices.Min(sizes[mark]), slices.Max(sizes[mark])
		if len(l) > 1 {
			counts.shared++
		}
		if least < most {
			counts.longer++
		}
		first := l[slices.Index(sizes[mark], least)]
		if slices.ContainsFunc(l, func(other string) bool { return len(other) == least && other != first }) {
			counts.tied++
		}
	}
	return counts
}

func sameVerdicts(a, b verdicts) bool {
	return slices.Equal(a.marks, b.marks) && slices.Equal(a.dead, b.dead) && slices.Equal(a.occurring, b.occurring) && samePairs(a.concurrent, b.concurrent) && samePairs(a.conflicting, b.conflicting)
}

// checkVerdicts compares the results for the prefix of b.
func checkVerdicts(t *testing.T, b branching, want verdicts) {
	t.Helper()
	p := b.prefix()
	var got verdicts
	var oks [5]bool
	got.marks, oks[0] = impl.PrefixMarkings(b.n, b.start, p)
	got.dead, oks[1] = impl.DeadMarkings(b.n, b.start, p)
	got.occurring, oks[2] = impl.OccurringTransitions(b.n, b.start, p)
	got.concurrent, oks[3] = impl.ConcurrentTransitions(b.n, b.start, p)
	got.conflicting, oks[4] = impl.ConflictingTransitions(b.n, b.start, p)
	if !sameVerdicts(got, want) || oks != [5]bool{true, true, true, true, true} {
		t.Errorf("of %v:\n%v %v, not\n%v", b, got, oks, want)
	}
}

func checkSequence(t *testing.T, b branching, mark string, want []int) {
	t.Helper()
	if got, ok := impl.FiringSequenceTo(b.n, b.start, b.prefix(), mark); !ok || !slices.Equal(got, want) {
		t.Errorf("FiringSequenceTo %q in %v: %v %v, not %v", mark, b, got, ok, want)
	}
}

func checkNoSequence(t *testing.T, b branching, mark string) {
	t.Helper()
	if got, ok := impl.FiringSequenceTo(b.n, b.start, b.prefix(), mark); ok || len(got) != 0 {
		t.Errorf("FiringSequenceTo %q in %v: %v %v", mark, b, got, ok)
	}
}

// checkSequences compares FiringSequenceTo for every text of '0' and '1' of this length.
func checkSequences(t *testing.T, b branching, want map[string][]int) {
	t.Helper()
	for bits := range 1 << b.n.Places {
		mark := markOf(b.n.Places, bits)
		if l, is := want[mark]; is {
			checkSequence(t, b, mark, l)
		} else {
			checkNoSequence(t, b, mark)
		}
	}
}

func checkMarkings(t *testing.T, n impl.Net, start string, want []string) {
	t.Helper()
	if is, ok := impl.IsSafe(n, start); !is || !ok {
		t.Errorf("IsSafe of %v from %q: %v %v", n, start, is, ok)
	}
	if got, ok := impl.ReachableMarkings(n, start); !ok || !slices.Equal(got, want) {
		t.Errorf("ReachableMarkings of %v from %q: %v %v, not %v", n, start, got, ok, want)
	}
}

// checkNoMarkings checks a net that is not safe, or one for which that stays open.
func checkNoMarkings(t *testing.T, n impl.Net, start string, isKnown bool) {
	t.Helper()
	if is, ok := impl.IsSafe(n, start); is || ok != isKnown {
		t.Errorf("IsSafe of %v from %q: %v %v", n, start, is, ok)
	}
	if got, ok := impl.ReachableMarkings(n, start); ok || len(got) != 0 {
		t.Errorf("ReachableMarkings of %v from %q: %d %v", n, start, len(got), ok)
	}
}

func TestVerdictExamples(t *testing.T) {
	checkVerdicts(t, prefixC(), verdicts{
		marks: []string{"0000", "0010", "0100", "0110", "1000", "1100"}, dead: []string{"0000", "0010"}, occurring: upTo(3), concurrent: [][]int{{0, 2}, {1, 2}}, conflicting: [][]int{{0, 1}},
	})
	checkSequence(t, prefixC(), "0010", []int{0, 2})
	checkNoSequence(t, prefixC(), "1111")
	checkMarkings(t, netC(), "1100", []string{"0000", "0010", "0100", "0110", "1000", "1100"})
	if p, ok := impl.CompletePrefix(netC(), "1100"); !ok || !sameUnfolding(p.U, prefixC().u) || len(p.Cutoffs) != 0 {
		t.Errorf("the example is not P: %v %v", p, ok)
	}
}

// verdictCase is a prefix with all results, worked out by hand.
type verdictCase struct {
	b         branching
	want      verdicts
	sequences map[string][]int
}

func checkCases(t *testing.T, cases map[string]verdictCase) {
	t.Helper()
	for name, k := range cases {
		t.Run(name, func(t *testing.T) {
			if !k.b.isRuleComplete(k.b.ruleCutoffs()) || !sameVerdicts(k.b.ruleVerdicts(), k.want) {
				t.Errorf("the case is wrong: %v", k.b.ruleVerdicts())
			}
			if !reflect.DeepEqual(normal(k.b.ruleSequences()), normal(k.sequences)) {
				t.Errorf("the case is wrong: %v", k.b.ruleSequences())
			}
			checkVerdicts(t, k.b, k.want)
			checkSequences(t, k.b, k.sequences)
		})
	}
}

// normal makes no difference between nil and an empty list.
func normal(lists map[string][]int) map[string][]int {
	same := map[string][]int{}
	for mark, l := range lists {
		same[mark] = append([]int{}, l...)
	}
	return same
}

func TestFewEvents(t *testing.T) {
	checkCases(t, map[string]verdictCase{
		"the document's example": {prefixC(),
			verdicts{marks: []string{"0000", "0010", "0100", "0110", "1000", "1100"}, dead: []string{"0000", "0010"}, occurring: upTo(3), concurrent: [][]int{{0, 2}, {1, 2}}, conflicting: [][]int{{0, 1}}},
			map[string][]int{"1100": nil, "0110": {0}, "0100": {1}, "1000": {2}, "0010": {0, 2}, "0000": {1, 2}}},
		"no events, nothing is enabled": {unfolded(netR(), "000"), verdicts{marks: []string{"000"}, dead: []string{"000"}}, map[string][]int{"000": nil}},
		"no events, one place is missing": {unfolded(net(3, move([]int{0, 1}, []int{2})), "101"), verdicts{marks: []string{"101"}, dead: []string{"101"}},
			map[string][]int{"101": nil}},
		"no transitions": {unfolded(net(2), "11"), verdicts{marks: []string{"11"}, dead: []string{"11"}}, map[string][]int{"11": nil}},
		"a token put back": {unfolded(net(1, move([]int{0}, []int{0})), "1", event(0, 0)), verdicts{marks: []string{"1"}, occurring: []int{0}},
			map[string][]int{"1": nil}},
		"a token that is lost": {unfolded(net(1, move([]int{0}, nil)), "1", event(0, 0)), verdicts{marks: []string{"0", "1"}, dead: []string{"0"}, occurring: []int{0}},
			map[string][]int{"1": nil, "0": {0}}},
		"a transition that does not occur": {unfolded(net(3, move([]int{2}, nil), move([]int{0}, []int{1}), move([]int{0, 1}, nil)), "100", event(1, 0)),
			verdicts{marks: []string{"010", "100"}, dead: []string{"010"}, occurring: []int{1}}, map[string][]int{"100": nil, "010": {1}}},
		"the markings are sorted as texts": {unfolded(net(3, move([]int{2}, []int{0}), move([]int{0}, []int{1})), "001", event(0, 0), event(1, 1)),
			verdicts{marks: []string{"001", "010", "100"}, dead: []string{"010"}, occurring: upTo(2)}, map[string][]int{"001": nil, "100": {0}, "010": {0, 1}}},
	})
}

// TestCutoffsShow has transitions and pairs of them that only cut-off events show.
func TestCutoffsShow(t *testing.T) {
	checkCases(t, map[string]verdictCase{
		"the last transition of a ring": {prefixR(), verdicts{marks: []string{"001", "010", "100"}, occurring: upTo(3)}, map[string][]int{"100": nil, "010": {0}, "001": {0, 1}}},
		"two cut-off events are concurrent": {unfolded(rings(2, 2).Net, "1010", event(0, 0), event(2, 1), event(1, 2), event(3, 3)),
			verdicts{marks: []string{"0101", "0110", "1001", "1010"}, occurring: upTo(4), concurrent: [][]int{{0, 2}, {0, 3}, {1, 2}, {1, 3}}},
			map[string][]int{"1010": nil, "0110": {0}, "1001": {2}, "0101": {0, 2}}},
		// Transitions 1 and 2 both lead where transition 0 does.
		"two cut-off events are in conflict": {unfolded(net(3, move([]int{0}, []int{1}), move([]int{0}, []int{1}), move([]int{0}, []int{1}), move([]int{1}, []int{2})), "100", event(0, 0), event(1, 0), event(2, 0), event(3, 1)),
			verdicts{marks: []string{"001", "010", "100"}, dead: []string{"001"}, occurring: upTo(4), conflicting: [][]int{{0, 1}, {0, 2}, {1, 2}}},
			map[string][]int{"100": nil, "010": {0}, "001": {0, 3}}},
		"a cut-off event that competes with its companion": {unfolded(net(2, move([]int{0}, []int{1}), move([]int{0}, []int{1})), "10", event(0, 0), event(1, 0)),
			verdicts{marks: []string{"01", "10"}, dead: []string{"01"}, occurring: upTo(2), conflicting: [][]int{{0, 1}}}, map[string][]int{"10": nil, "01": {0}}},
		"a cut-off event comes first": {unfolded(net(2, move([]int{0}, []int{1}), move([]int{0}, []int{1})), "10", event(1, 0), event(0, 0)),
			verdicts{marks: []string{"01", "10"}, dead: []string{"01"}, occurring: upTo(2), conflicting: [][]int{{0, 1}}}, map[string][]int{"10": nil, "01": {0}}},
		"every event is cut off": {unfolded(net(2, move([]int{0}, []int{0}), move([]int{1}, []int{1}), move([]int{0, 1}, []int{0, 1})), "11", event(0, 0), event(1, 1), event(2, 0, 1)),
			verdicts{marks: []string{"11"}, occurring: upTo(3), concurrent: [][]int{{0, 1}}, conflicting: [][]int{{0, 2}, {1, 2}}}, map[string][]int{"11": nil}},
	})
}

// TestRelatedPairs has pairs of transitions that are in conflict, or only look so.
func TestRelatedPairs(t *testing.T) {
	apart := net(6, move([]int{0}, []int{1}), move([]int{0}, []int{2}), move([]int{1, 3}, []int{4}), move([]int{2, 3}, []int{5}))
	later := net(5, move([]int{0}, []int{1}), move([]int{0, 2}, []int{3}), move([]int{1, 2}, []int{4}))
	both := net(4, move([]int{0}, []int{2}), move([]int{1}, []int{3}), move([]int{0, 1}, []int{2, 3}))
	once := net(4, move([]int{0}, []int{1}), move([]int{0}, []int{2}), move([]int{0}, []int{1, 2}), move([]int{1, 3}, nil), move([]int{2, 3}, nil))
	checkCases(t, map[string]verdictCase{
		"a condition in common, the others in conflict": {unfolded(apart, "100100", event(0, 0), event(1, 0), event(2, 1, 2), event(3, 1, 3)),
			verdicts{marks: []string{"000001", "000010", "001100", "010100", "100100"}, dead: []string{"000001", "000010"}, occurring: upTo(4), conflicting: [][]int{{0, 1}}},
			map[string][]int{"100100": nil, "010100": {0}, "001100": {1}, "000010": {0, 2}, "000001": {1, 3}}},
		"a condition in common, the others in a row": {unfolded(later, "10100", event(0, 0), event(1, 0, 1), event(2, 1, 2)),
			verdicts{marks: []string{"00001", "00010", "01100", "10100"}, dead: []string{"00001", "00010"}, occurring: upTo(3), conflicting: [][]int{{0, 1}}},
			map[string][]int{"10100": nil, "01100": {0}, "00010": {1}, "00001": {0, 2}}},
		"a condition in common, at one time after another way only": {unfolded(once, "1001", event(0, 0), event(1, 0), event(2, 0), event(3, 1, 2), event(4, 1, 3), event(3, 1, 4), event(4, 1, 5)),
			verdicts{marks: []string{"0000", "0010", "0011", "0100", "0101", "0111", "1001"}, dead: []string{"0000", "0010", "0100"}, occurring: upTo(5), conflicting: [][]int{{0, 1}, {0, 2}, {1, 2}, {3, 4}}},
			map[string][]int{"1001": nil, "0101": {0}, "0011": {1}, "0111": {2}, "0000": {0, 3}, "0010": {2, 3}, "0100": {2, 4}}},
		"one transition against two concurrent ones": {unfolded(both, "1100", event(0, 0), event(1, 1), event(2, 0, 1)),
			verdicts{marks: []string{"0011", "0110", "1001", "1100"}, dead: []string{"0011"}, occurring: upTo(3), concurrent: [][]int{{0, 1}}, conflicting: [][]int{{0, 2}, {1, 2}}},
			map[string][]int{"1100": nil, "0110": {0}, "1001": {1}, "0011": {2}}},
		"two orders": {takingTurns(), verdicts{marks: []string{"000011", "001110", "011010", "100110", "110010"}, dead: []string{"000011"}, occurring: upTo(3), conflicting: [][]int{{0, 1}}},
			map[string][]int{"110010": nil, "011010": {0}, "100110": {1}, "001110": {0, 1}, "000011": {0, 1, 2}}},
		"back to the start by two concurrent events": {swapping(),
			verdicts{marks: []string{"00111100", "01011010", "01101001", "10010110", "10100101", "11000011"}, occurring: upTo(4), concurrent: [][]int{{0, 1}, {2, 3}}},
			map[string][]int{"11000011": nil, "01101001": {0}, "10010110": {1}, "00111100": {0, 1}, "01011010": {0, 1, 2}, "10100101": {0, 1, 3}}},
	})
}

// TestOtherOrders has prefixes whose events are not in the order of CompletePrefix.
func TestOtherOrders(t *testing.T) {
	c, turns, back := prefixC().ruleVerdicts(), takingTurns().ruleVerdicts(), swapping().ruleVerdicts()
	checkCases(t, map[string]verdictCase{
		"the events decide the order": {unfolded(netC(), "1100", event(2, 1), event(1, 0), event(0, 0)), c,
			map[string][]int{"1100": nil, "0110": {0}, "0100": {1}, "1000": {2}, "0010": {2, 0}, "0000": {2, 1}}},
		"one event moved": {unfolded(netC(), "1100", event(0, 0), event(2, 1), event(1, 0)), c,
			map[string][]int{"1100": nil, "0110": {0}, "0100": {1}, "1000": {2}, "0010": {0, 2}, "0000": {2, 1}}},
		"the smallest list comes later": {unfolded(takingTurns().n, "110010", event(1, 1, 2), event(0, 0, 2), event(1, 1, 6), event(0, 0, 4), event(2, 5, 7), event(2, 3, 9)), turns,
			map[string][]int{"110010": nil, "011010": {0}, "100110": {1}, "001110": {0, 1}, "000011": {0, 1, 2}}},
		"the smallest list comes last of all": {unfolded(takingTurns().n, "110010", event(1, 1, 2), event(0, 0, 4), event(2, 3, 5), event(0, 0, 2), event(1, 1, 9), event(2, 8, 10)), turns,
			map[string][]int{"110010": nil, "011010": {0}, "100110": {1}, "001110": {0, 1}, "000011": {0, 1, 2}}},
		"back to the start, reordered": {unfolded(swapping().n, "11000011", event(1, 1, 3), event(0, 0, 2), event(3, 4, 7), event(2, 5, 6), event(1, 9, 10), event(0, 8, 11)), back,
			map[string][]int{"11000011": nil, "01101001": {0}, "10010110": {1}, "00111100": {1, 0}, "01011010": {1, 0, 2}, "10100101": {1, 0, 3}}},
	})
}

// TestUnsafeVerdicts has prefixes of nets that are not safe, for which IsCompletePrefix reports true all the same.
func TestUnsafeVerdicts(t *testing.T) {
	twice := net(3, move([]int{0}, []int{1}), move([]int{1}, []int{2}))
	lost := net(2, move([]int{0}, []int{1}), move([]int{1}, nil), move([]int{1}, nil))
	cases := map[string]verdictCase{
		"two conditions of one place": {unfolded(net(2, move([]int{0}, []int{1})), "11", event(0, 0)),
			verdicts{marks: []string{"01", "11"}, dead: []string{"01"}, occurring: []int{0}}, map[string][]int{"11": nil, "01": {0}}},
		"concurrent events of one transition": {unfolded(twice, "110", event(0, 0), event(1, 1), event(1, 2)),
			verdicts{marks: []string{"001", "010", "011", "101", "110"}, dead: []string{"001"}, occurring: upTo(2), concurrent: [][]int{{0, 1}}},
			map[string][]int{"110": nil, "010": {0}, "101": {1}, "011": {0, 1}, "001": {0, 1, 1}}},
		"concurrent, and in conflict as well": {unfolded(lost, "11", event(0, 0), event(1, 1), event(2, 1), event(1, 2), event(2, 2)),
			verdicts{marks: []string{"01", "10", "11"}, occurring: upTo(3), concurrent: [][]int{{0, 1}, {0, 2}, {1, 2}}, conflicting: [][]int{{1, 2}}},
			map[string][]int{"11": nil, "01": {0}, "10": {1}}},
	}
	checkCases(t, cases)
	for _, k := range cases {
		checkNoMarkings(t, k.b.n, k.b.start, true)
	}
}

func TestNoSequence(t *testing.T) {
	for _, mark := range []string{
		"", "0", "1", "110", "11000", "11001100", "1111", "0001", "1010", "1110", "0011", "1x00", "110x", " 1100", "1100 ", "1100\n", "110\x00", "2200", "1 00", "\u0661100", "12", "[1100]", strings.Repeat("1", 31), strings.Repeat("1100", 100000),
	} {
		checkNoSequence(t, prefixC(), mark)
	}
	for _, b := range []branching{prefixR(), takingTurns(), swapping(), unfolded(netR(), "000"), unfolded(net(2), "11")} {
		checkSequence(t, b, b.start, nil)
		checkNoSequence(t, b, "")
		checkNoSequence(t, b, b.start+"0")
		checkNoSequence(t, b, b.start[1:])
		checkNoSequence(t, b, strings.Repeat("x", len(b.start)))
	}
}

// hasPrefix returns the complete prefix, and checks that it has so many events.
func hasPrefix(t *testing.T, s impl.STG, events int) impl.Prefix {
	t.Helper()
	p, ok := impl.CompletePrefix(s.Net, s.Start)
	if !ok || len(p.U.Events) != events {
		t.Fatalf("CompletePrefix of %v from %q: %d events, %v", s.Net, s.Start, len(p.U.Events), ok)
	}
	return p
}

// checkManyMarkings checks a prefix with few enough configurations.
func checkManyMarkings(t *testing.T, s impl.STG, events, count, dead int) {
	t.Helper()
	p := hasPrefix(t, s, events)
	want, isSafe, _ := ruleSearch(s.Net, s.Start)
	if !isSafe || len(want) != count {
		t.Fatalf("the case is wrong: %d markings", len(want))
	}
	checkMarkings(t, s.Net, s.Start, want)
	if got, ok := impl.PrefixMarkings(s.Net, s.Start, p); !ok || !slices.Equal(got, want) {
		t.Errorf("PrefixMarkings of %v: %d %v, not %d", s, len(got), ok, count)
	}
	if got, ok := impl.DeadMarkings(s.Net, s.Start, p); !ok || len(got) != dead {
		t.Errorf("DeadMarkings of %v: %d %v, not %d", s, len(got), ok, dead)
	}
	for _, mark := range want {
		l, ok := impl.FiringSequenceTo(s.Net, s.Start, p, mark)
		if got, _, fires := impl.FireSequence(s.Net, s.Start, l); !ok || !fires || got != mark {
			t.Errorf("FiringSequenceTo %q in %v: %v %v leads to %q", mark, s, l, ok, got)
		}
	}
}

// checkTooMany checks a prefix with too many configurations, which nevertheless tells of its events.
func checkTooMany(t *testing.T, s impl.STG, events, concurrent, conflicting int) {
	t.Helper()
	p := hasPrefix(t, s, events)
	if got, ok := impl.PrefixMarkings(s.Net, s.Start, p); ok || len(got) != 0 {
		t.Errorf("PrefixMarkings of %v: %d %v", s, len(got), ok)
	}
	if got, ok := impl.DeadMarkings(s.Net, s.Start, p); ok || len(got) != 0 {
		t.Errorf("DeadMarkings of %v: %d %v", s, len(got), ok)
	}
	if got, ok := impl.FiringSequenceTo(s.Net, s.Start, p, s.Start); ok || len(got) != 0 {
		t.Errorf("FiringSequenceTo the start of %v: %v %v", s, got, ok)
	}
	if got, ok := impl.OccurringTransitions(s.Net, s.Start, p); !ok || !slices.Equal(got, upTo(len(s.Net.Transitions))) {
		t.Errorf("OccurringTransitions of %v: %v %v", s, got, ok)
	}
	if got, ok := impl.ConcurrentTransitions(s.Net, s.Start, p); !ok || len(got) != concurrent {
		t.Errorf("ConcurrentTransitions of %v: %d %v, not %d", s, len(got), ok, concurrent)
	}
	if got, ok := impl.ConflictingTransitions(s.Net, s.Start, p); !ok || len(got) != conflicting {
		t.Errorf("ConflictingTransitions of %v: %d %v, not %d", s, len(got), ok, conflicting)
	}
}

// openRings returns a graph of independent lines with the given numbers of places, one token in the first place of each.
func openRings(sizes ...int) impl.STG {
	s := rings(sizes...)
	var l []impl.Transition
	for _, t := range s.Net.Transitions {
		if t.Post[0] == t.Pre[0]+1 {
			l = append(l, t)
		}
	}
	return unlabelled(s.Start, l...)
}

// TestConfigurationLimit checks that 600 configurations are met exactly and 601 are too many.
func TestConfigurationLimit(t *testing.T) {
	pairs := func(sizes ...int) (count int) {
		for i, size := range sizes {
			for _, other := range sizes[:i] {
				count += size * other
			}
		}
		return count
	}
	checkManyMarkings(t, rings(2, 3, 4, 5, 5), 19, impl.MaxConfigurations, 0)
	checkManyMarkings(t, openRings(2, 3, 4, 5, 5), 14, impl.MaxConfigurations, 1)
	checkManyMarkings(t, ahead(openRings(3, 4, 7, 7)), 18, 589, 1)
	checkTooMany(t, ahead(rings(2, 3, 4, 5, 5)), 20, pairs(2, 3, 4, 5, 5), 0)
	checkTooMany(t, ahead(openRings(2, 3, 4, 5, 5)), 15, pairs(1, 2, 3, 4, 4), 0)
	checkTooMany(t, rings(5, 5, 5, 5), 20, pairs(5, 5, 5, 5), 0)
	checkTooMany(t, openRings(7, 9, 10), 23, pairs(6, 8, 9), 0)
	checkTooMany(t, rings(slices.Repeat([]int{2}, 12)...), 24, 24*22/2, 0)
	loose := unlabelled(strings.Repeat("1", impl.MaxPlaces))
	for p := range impl.MaxTransitions {
		loose = with(loose, "", move([]int{p}, nil))
	}
	checkTooMany(t, loose, impl.MaxTransitions, 24*23/2, 0)
	// Five configurations lead to four markings; with a ring of 120 and 126 markings they are 600 and 630.
	both := unlabelled("1100", move([]int{0}, []int{2}), move([]int{1}, []int{3}), move([]int{0, 1}, []int{2, 3}))
	checkManyMarkings(t, beside(both, openRings(2, 3, 4, 5)), 13, 480, 1)
	checkTooMany(t, beside(both, openRings(2, 3, 3, 7)), 14, 1+3*11+pairs(1, 2, 2, 6), 2)
	if want, isSafe, _ := ruleSearch(beside(both, openRings(2, 3, 3, 7)).Net, beside(both, openRings(2, 3, 3, 7)).Start); !isSafe || len(want) != 504 {
		t.Errorf("the case is wrong: %d markings", len(want))
	} else {
		checkMarkings(t, beside(both, openRings(2, 3, 3, 7)).Net, beside(both, openRings(2, 3, 3, 7)).Start, want)
	}
}

// ruleSearch is the document's search for markings; isKnown is false if it ends by an excess.
func ruleSearch(n impl.Net, start string) (marks []string, isSafe, isKnown bool) {
	marks = []string{start}
	for k := 0; k < len(marks); k++ {
		for _, tr := range n.Transitions {
			next, isEnabled, isAccepted := ruleFire(marks[k], tr)
			if isEnabled && !isAccepted {
				return nil, false, true
			}
			if isEnabled && !slices.Contains(marks, next) {
				marks = append(marks, next)
			}
		}
		if len(marks) > impl.MaxConfigurations {
			return nil, false, false
		}
	}
	slices.Sort(marks)
	return marks, true, true
}

func checkSearch(t *testing.T, s impl.STG) (isSafe, isKnown bool) {
	t.Helper()
	want, isSafe, isKnown := ruleSearch(s.Net, s.Start)
	if isSafe {
		checkMarkings(t, s.Net, s.Start, want)
	} else {
		checkNoMarkings(t, s.Net, s.Start, isKnown)
	}
	return isSafe, isKnown
}

func TestIsSafe(t *testing.T) {
	for name, k := range map[string]struct {
		s    impl.STG
		want []string
	}{
		"the ring":                           {rings(3), []string{"001", "010", "100"}},
		"no transitions":                     {unlabelled("010"), []string{"010"}},
		"nothing is enabled":                 {unlabelled("001", move([]int{0, 2}, []int{1})), []string{"001"}},
		"no marked place":                    {unlabelled("00", move([]int{0}, []int{1})), []string{"00"}},
		"a token put back":                   {unlabelled("11", move([]int{0, 1}, []int{1})), []string{"01", "11"}},
		"refused where it cannot be reached": {unlabelled("110", move([]int{0, 2}, []int{1})), []string{"110"}},
		"refused at once":                    {unlabelled("11", move([]int{0}, []int{1})), nil},
		"refused at once, by the last one":   {unlabelled("110", move([]int{0}, []int{2}), move([]int{0}, []int{0}), move([]int{0}, []int{1})), nil},
		"refused later":                      {unlabelled("1001", move([]int{0}, []int{1}), move([]int{1}, []int{2}), move([]int{2}, []int{3})), nil},
		"the net of the document":            {with(rings(3), "", move([]int{0}, []int{0, 1})), nil},
		"two tokens in one way":              {unlabelled("1100", move([]int{0}, []int{2}), move([]int{1}, []int{2}), move([]int{2}, []int{3})), nil},
	} {
		t.Run(name, func(t *testing.T) {
			if isSafe, isKnown := checkSearch(t, k.s); isSafe != (k.want != nil) || !isKnown {
				t.Error("the case is wrong")
			}
			if k.want != nil {
				checkMarkings(t, k.s.Net, k.s.Start, k.want)
			}
		})
	}
}

// TestSafetyLimit has nets with 600 markings and a few more, and a refusal at the last of them.
func TestSafetyLimit(t *testing.T) {
	most, last := rings(2, 3, 4, 5, 5), []int{1, 4, 8, 13, 18}
	refused, further, other := move(last, []int{19}), move(last, []int{20}), move(last, []int{21})
	large := rings(slices.Repeat([]int{2}, 11)...)
	for name, k := range map[string]struct {
		s               impl.STG
		isSafe, isKnown bool
	}{
		"600 markings":                          {most, true, true},
		"601 markings":                          {ahead(most), false, false},
		"601 markings, the last of them dead":   {with(most, "00", further), false, false},
		"602 markings, two from the last":       {with(most, "000", further, other), false, false},
		"2048 markings":                         {large, false, false},
		"a refusal at the last of 600":          {with(most, "100", refused), false, true},
		"a refusal ahead of the 601st":          {with(most, "100", refused, further), false, true},
		"a refusal behind the 601st":            {with(most, "100", further, refused), false, true},
		"a refusal behind the 602nd":            {with(most, "1000", further, other, refused), false, true},
		"a refusal at the last of 601":          {ahead(with(most, "100", refused)), false, false},
		"a refusal at the last of 601 of three": {ahead(with(most, "1000", further, other, refused)), false, false},
		"a refusal at the 601st":                {with(most, "100", further, move([]int{20}, []int{19})), false, false},
		"a refusal at the first of 2048":        {with(large, "1", move([]int{0}, []int{22})), false, true},
		"a refusal at the last of 2048":         {with(large, "1", move([]int{1, 3, 5, 7, 9, 11, 13, 15, 17, 19, 21}, []int{22})), false, false},
	} {
		t.Run(name, func(t *testing.T) {
			if isSafe, isKnown := checkSearch(t, k.s); isSafe != k.isSafe || isKnown != k.isKnown {
				t.Errorf("the case is wrong: %v %v", isSafe, isKnown)
			}
		})
	}
}

// TestSafetyNearLimit has about as many markings as the limit, and often a refusal in one of them.
func TestSafetyNearLimit(t *testing.T) {
	x := numbers(61)
	seen := map[[2]bool]int{}
	for range 150 {
		sizes := [][]int{{2, 3, 4, 5, 5}, {4, 5, 5, 6}, {3, 4, 7, 7}, {2, 2, 2, 3, 5, 5}, {3, 3, 4, 4, 4}, {2, 2, 3, 3, 4, 4}}[x.below(6)]
		s := rings(sizes...)
		for i := range 1 + x.below(3) {
			var pre []int
			first := 0
			for _, size := range sizes {
				pre = append(pre, first+size-1-x.below(1+x.below(size)))
				first += size
			}
			if s = with(s, string(rune('0'+x.below(2)))); x.below(4) > 0 || i == 0 {
				s = with(s, "", move(pre, []int{len(s.Start) - 1}))
			}
		}
		isSafe, isKnown := checkSearch(t, s)
		seen[[2]bool{isSafe, isKnown}]++
	}
	if seen[[2]bool{true, true}] < 10 || seen[[2]bool{false, true}] < 40 || seen[[2]bool{false, false}] < 30 {
		t.Errorf("too few of a kind: %v", seen)
	}
}

// checkRuleVerdicts compares all results for a complete prefix with the document's words.
func checkRuleVerdicts(t *testing.T, x *numbers, b branching) {
	t.Helper()
	checkVerdicts(t, b, b.ruleVerdicts())
	want := b.ruleSequences()
	for mark, l := range want {
		checkSequence(t, b, mark, l)
	}
	for range 5 {
		if mark := markOf(b.n.Places, x.below(1<<b.n.Places)); want[mark] == nil && mark != b.start {
			checkNoSequence(t, b, mark)
		}
	}
}

// checkAgreement checks promise 9 for a safe net: the prefix tells of the reachable markings, and of what is enabled at them.
func checkAgreement(t *testing.T, b branching) {
	t.Helper()
	marks, ok := impl.ReachableMarkings(b.n, b.start)
	rule, isSafe, _ := ruleSearch(b.n, b.start)
	if !ok || !isSafe || !slices.Equal(marks, rule) {
		t.Fatalf("ReachableMarkings of %v: %v %v", b, marks, ok)
	}
	want := verdicts{marks: marks}
	enabled := map[string][]int{}
	for _, mark := range marks {
		l, _ := impl.Enabled(b.n, mark)
		enabled[mark] = l
		if len(l) == 0 {
			want.dead = append(want.dead, mark)
		}
	}
	for t := range b.n.Transitions {
		isAt := func(mark string) bool { return slices.Contains(enabled[mark], t) }
		if slices.ContainsFunc(marks, isAt) {
			want.occurring = append(want.occurring, t)
		}
		for u := t + 1; u < len(b.n.Transitions); u++ {
			if !slices.ContainsFunc(marks, func(mark string) bool { return isAt(mark) && slices.Contains(enabled[mark], u) }) {
				continue
			}
			if slices.ContainsFunc(b.n.Transitions[t].Pre, func(p int) bool { return slices.Contains(b.n.Transitions[u].Pre, p) }) {
				want.conflicting = append(want.conflicting, []int{t, u})
			} else {
				want.concurrent = append(want.concurrent, []int{t, u})
			}
		}
	}
	checkVerdicts(t, b, want)
	for mark, l := range b.ruleSequences() {
		if got, _, fires := impl.FireSequence(b.n, b.start, l); !fires || got != mark {
			t.Errorf("%v does not lead to %q in %v", l, mark, b)
		}
	}
}

// TestVerdictsByRules checks promise 9 on random nets, safe and unsafe.
func TestVerdictsByRules(t *testing.T) {
	x := numbers(62)
	safe, unsafe, concurrent, conflicting := 0, 0, 0, 0
	for range 4000 {
		s := someNetGraph(&x)
		b, cutoffs, isSafe := rulePrefix(s.Net, s.Start)
		if isFound, isKnown := checkSearch(t, s); isFound && !isSafe || isSafe && !isFound || !isKnown {
			t.Errorf("IsSafe of %v from %q disagrees with its prefix", s.Net, s.Start)
		}
		if len(b.u.Events) > 10 || !b.isRuleComplete(cutoffs) {
			continue
		}
		checkRuleVerdicts(t, &x, b)
		checkRuleVerdicts(t, &x, b.reordered(&x))
		v := b.ruleVerdicts()
		concurrent += len(v.concurrent)
		conflicting += len(v.conflicting)
		if !isSafe {
			unsafe++
			continue
		}
		safe++
		checkAgreement(t, b)
	}
	if safe < 2000 || unsafe < 200 || concurrent < 500 || conflicting < 500 {
		t.Errorf("only %d safe and %d unsafe nets, %d and %d pairs", safe, unsafe, concurrent, conflicting)
	}
}

// TestLargeVerdicts has larger prefixes, in which several configurations lead to one marking.
func TestLargeVerdicts(t *testing.T) {
	x := numbers(63)
	large := 0
	var counts someCounts
	for range 400 {
		s := someSafeGraph(&x)
		b, _, ok := rulePrefix(s.Net, s.Start)
		if !ok || len(b.u.Events) > 18 {
			continue
		}
		for _, k := range []branching{b, b.reordered(&x)} {
			checkRuleVerdicts(t, &x, k)
			checkAgreement(t, k)
			more := k.countShared()
			counts = someCounts{counts.shared + more.shared, counts.longer + more.longer, counts.tied + more.tied}
		}
		if len(b.u.Events) > 10 {
			large++
		}
	}
	if large < 20 || counts.shared < 200 || counts.longer < 100 || counts.tied < 100 {
		t.Errorf("only %d large prefixes, %v", large, counts)
	}
}

// checkNoVerdicts checks that every result for a prefix is zero.
func checkNoVerdicts(t *testing.T, n impl.Net, start string, p impl.Prefix) {
	t.Helper()
	defer mustNotPanic(t, "a function of chapter 9")
	if got, ok := impl.PrefixMarkings(n, start, p); ok || len(got) != 0 {
		t.Errorf("PrefixMarkings of %v from %q with %v: %v %v", n, start, p, got, ok)
	}
	if got, ok := impl.DeadMarkings(n, start, p); ok || len(got) != 0 {
		t.Errorf("DeadMarkings of %v from %q with %v: %v %v", n, start, p, got, ok)
	}
	if got, ok := impl.OccurringTransitions(n, start, p); ok || len(got) != 0 {
		t.Errorf("OccurringTransitions of %v from %q with %v: %v %v", n, start, p, got, ok)
	}
	if got, ok := impl.ConcurrentTransitions(n, start, p); ok || len(got) != 0 {
		t.Errorf("ConcurrentTransitions of %v from %q with %v: %v %v", n, start, p, got, ok)
	}
	if got, ok := impl.ConflictingTransitions(n, start, p); ok || len(got) != 0 {
		t.Errorf("ConflictingTransitions of %v from %q with %v: %v %v", n, start, p, got, ok)
	}
	for _, mark := range []string{start, "", "0000", "010"} {
		if got, ok := impl.FiringSequenceTo(n, start, p, mark); ok || len(got) != 0 {
			t.Errorf("FiringSequenceTo %q of %v from %q with %v: %v %v", mark, n, start, p, got, ok)
		}
	}
}

// TestIncompletePrefixes has prefixes that are valid but not complete.
func TestIncompletePrefixes(t *testing.T) {
	for _, cutoffs := range [][]int{nil, {}, {0}, {1}, {0, 2}, {1, 2}, {0, 1, 2}, {2, 2}, {2, 3}, {-1, 2}, {66}, {math.MinInt}, slices.Repeat([]int{2}, 10000)} {
		checkNoVerdicts(t, netR(), "100", impl.Prefix{U: prefixR().u, Cutoffs: cutoffs})
	}
	for e := range 3 {
		checkNoVerdicts(t, netC(), "1100", impl.Prefix{U: prefixC().u, Cutoffs: []int{e}})
	}
	for _, b := range []branching{
		unfolded(netR(), "100"), unfolded(netR(), "100", event(0, 0)), unfolded(netR(), "100", event(0, 0), event(1, 1)), prefixR().plus(event(0, 3)), prefixR().plus(event(0, 3), event(1, 4), event(2, 5)),
		unfolded(netC(), "1100"), unfolded(netC(), "1100", event(0, 0), event(2, 1)), unfolded(netC(), "1100", event(0, 0), event(1, 0)), unfolded(swapping().n, "11000011", swapping().u.Events[:5]...),
	} {
		if !b.isValid() {
			t.Errorf("the case is wrong: %v", b)
		}
		checkNoVerdicts(t, b.n, b.start, b.prefix())
	}
}

// TestDamagedVerdicts has random prefixes that lack an event or have one too many, and some with other cut-off events.
func TestDamagedVerdicts(t *testing.T) {
	x := numbers(64)
	complete, incomplete := 0, 0
	for range 1500 {
		b := someBranching(&x, 5)
		cutoffs := b.ruleCutoffs()
		if b.isRuleComplete(cutoffs) {
			complete++
			checkRuleVerdicts(t, &x, b)
		} else {
			incomplete++
			checkNoVerdicts(t, b.n, b.start, impl.Prefix{U: b.u, Cutoffs: cutoffs})
		}
		for e := range len(b.u.Events) + 1 {
			other := slices.Sorted(slices.Values(append(slices.Clone(cutoffs), e)))
			if i := slices.Index(cutoffs, e); i >= 0 {
				other = slices.Delete(slices.Clone(cutoffs), i, i+1)
			}
			checkNoVerdicts(t, b.n, b.start, impl.Prefix{U: b.u, Cutoffs: other})
		}
	}
	if complete < 400 || incomplete < 400 {
		t.Errorf("only %d complete and %d incomplete prefixes", complete, incomplete)
	}
}

func TestInvalidVerdicts(t *testing.T) {
	for name, change := range map[string]func(b *branching){
		"a condition is missing":       func(b *branching) { b.u.Conditions = b.u.Conditions[:3] },
		"a condition is left over":     func(b *branching) { b.u.Conditions = append(b.u.Conditions, condition(0, 2)) },
		"no conditions":                func(b *branching) { b.u.Conditions = nil },
		"By is another event":          func(b *branching) { b.u.Conditions[3].By = 1 },
		"an event twice":               func(b *branching) { *b = b.plus(event(2, 2)) },
		"no such transition":           func(b *branching) { b.u.Events[2].T = 3 },
		"no such condition":            func(b *branching) { b.u.Events[2].Pre = []int{4} },
		"very many events":             func(b *branching) { b.u.Events = slices.Repeat(b.u.Events, 3000) },
		"another marking":              func(b *branching) { b.start = "010" },
		"a marking that is too short":  func(b *branching) { b.start = "10" },
		"a marking that is too long":   func(b *branching) { b.start = "1000" },
		"a marking with another byte":  func(b *branching) { b.start = "1x0" },
		"another net":                  func(b *branching) { b.n = netN() },
		"an invalid net":               func(b *branching) { b.n.Transitions[0].Pre = nil },
		"an invalid net, unused place": func(b *branching) { b.n.Transitions = append(b.n.Transitions, move([]int{3}, nil)) },
	} {
		t.Run(name, func(t *testing.T) {
			b := prefixR()
			change(&b)
			checkNoVerdicts(t, b.n, b.start, impl.Prefix{U: b.u, Cutoffs: []int{2}})
		})
	}
	for _, start := range []string{"", "10", "1000", "1x0", "1 0", "12", "10\x00"} {
		checkNoMarkings(t, netR(), start, false)
		checkNoVerdicts(t, netR(), start, impl.Prefix{})
	}
	for _, n := range invalidNets() {
		for _, start := range []string{"", "1", "10", strings.Repeat("1", max(0, min(n.Places, 40)))} {
			checkNoMarkings(t, n, start, false)
			checkNoVerdicts(t, n, start, impl.Prefix{})
			checkNoVerdicts(t, n, start, impl.Prefix{U: unfolded(n, start).u})
			checkNoVerdicts(t, n, start, impl.Prefix{U: unfolded(n, start, event(0, 0)).u, Cutoffs: []int{0}})
		}
	}
	checkNoVerdicts(t, netR(), "100", impl.Prefix{})
	checkVerdicts(t, branching{n: netR(), start: "000"}, verdicts{marks: []string{"000"}, dead: []string{"000"}})
}

// checkVerdictCalls checks promise 29 for chapter 9.
func checkVerdictCalls(t *testing.T, b branching, cutoffs []int, mark string) {
	t.Helper()
	defer mustNotPanic(t, "a function of chapter 9")
	n, p := netWithSpare(b.n), impl.Prefix{U: unfoldingWithSpare(b.u), Cutoffs: withSpare(cutoffs)}
	beforeN, beforeU, beforeCutoffs := wholeNet(n), wholeUnfolding(p.U), wholeInts(p.Cutoffs)
	impl.PrefixMarkings(n, b.start, p)
	impl.DeadMarkings(n, b.start, p)
	impl.OccurringTransitions(n, b.start, p)
	impl.ConcurrentTransitions(n, b.start, p)
	impl.ConflictingTransitions(n, b.start, p)
	impl.FiringSequenceTo(n, b.start, p, mark)
	impl.IsSafe(n, b.start)
	impl.ReachableMarkings(n, b.start)
	if !reflect.DeepEqual(wholeNet(n), beforeN) || !reflect.DeepEqual(wholeUnfolding(p.U), beforeU) || !slices.Equal(wholeInts(p.Cutoffs), beforeCutoffs) {
		t.Errorf("an argument has changed: %v %v", b, cutoffs)
	}
}

func TestVerdictsNoPanicNoChange(t *testing.T) {
	odd := []int{0, 1, 2, 3, 59, 60, 63, 64, 199, 200, -1, -2, math.MaxInt, math.MinInt}
	x := numbers(65)
	for range 1000 {
		b := someBranchingWithTransitions(&x)
		e, f := odd[x.below(len(odd))], odd[x.below(len(odd))]
		checkVerdictCalls(t, b, b.ruleCutoffs(), markOf(b.n.Places, x.below(1<<b.n.Places)))
		checkVerdictCalls(t, spoiled(&x, b), []int{e, f}[:x.below(3)], shuffled(&x, b.start))
		s := someSafeGraph(&x)
		if p, ok := impl.CompletePrefix(s.Net, s.Start); ok {
			checkVerdictCalls(t, branching{s.Net, s.Start, p.U}, p.Cutoffs, shuffled(&x, s.Start))
		}
	}
	for _, n := range append(invalidNets(), netR(), net(1)) {
		for _, start := range []string{"", "1", "100", strings.Repeat("1", max(0, min(n.Places, 40)))} {
			checkVerdictCalls(t, branching{n, start, prefixR().u}, []int{2}, start)
			checkVerdictCalls(t, branching{n, start, impl.Unfolding{}}, nil, "")
		}
	}
	huge := branching{netR(), "100", impl.Unfolding{Conditions: slices.Repeat(prefixR().u.Conditions, 2000), Events: slices.Repeat(prefixR().u.Events, 2000)}}
	checkVerdictCalls(t, huge, upTo(10000), strings.Repeat("1", 10000))
	checkVerdictCalls(t, prefixR(), upTo(10000), strings.Repeat("1", 10000))
}

// TestVerdictsNewMemory checks that no result shares memory with an argument, a later result or another part of itself.
func TestVerdictsNewMemory(t *testing.T) {
	source := swapping()
	b := branching{netWithSpare(source.n), source.start, unfoldingWithSpare(source.u)}
	p := impl.Prefix{U: b.u, Cutoffs: withSpare(b.ruleCutoffs())}
	beforeN, beforeU, beforeCutoffs := wholeNet(b.n), wholeUnfolding(p.U), wholeInts(p.Cutoffs)
	for range 2 {
		checkVerdicts(t, b, source.ruleVerdicts())
		checkSequence(t, b, "10100101", []int{0, 1, 3})
		for _, call := range []func(impl.Net, string, impl.Prefix) ([]string, bool){
			impl.PrefixMarkings, impl.DeadMarkings, func(n impl.Net, start string, _ impl.Prefix) ([]string, bool) {
				return impl.ReachableMarkings(n, start)
			},
		} {
			marks, _ := call(b.n, b.start, p)
			clear(marks[:cap(marks)])
		}
		for _, call := range []func(impl.Net, string, impl.Prefix) ([][]int, bool){impl.ConcurrentTransitions, impl.ConflictingTransitions} {
			pairs, _ := call(b.n, b.start, p)
			if listsShare(netOfPairs(pairs)) {
				t.Errorf("two pairs share memory: %v", pairs)
			}
			for _, pair := range pairs {
				overwriteInts(pair)
			}
			clear(pairs[:cap(pairs)])
		}
		occurring, _ := impl.OccurringTransitions(b.n, b.start, p)
		overwriteInts(occurring)
		l, _ := impl.FiringSequenceTo(b.n, b.start, p, "10100101")
		overwriteInts(l)
	}
	if !reflect.DeepEqual(wholeNet(b.n), beforeN) || !reflect.DeepEqual(wholeUnfolding(p.U), beforeU) || !slices.Equal(wholeInts(p.Cutoffs), beforeCutoffs) {
		t.Errorf("a result shares memory with an argument: %v", b)
	}
}

// netOfPairs has each pair as the Pre list of a transition, for listsShare.
func netOfPairs(pairs [][]int) (n impl.Net) {
	for _, pair := range pairs {
		n.Transitions = append(n.Transitions, move(pair, nil))
	}
	return n
}
