package tests

import (
	"fmt"
	"maps"
	"math"
	"reflect"
	"slices"
	"strings"
	"testing"

	"loop.example/g00862/impl"
)

func event(by int, pre ...int) impl.Event {
	return impl.Event{T: by, Pre: pre}
}

func condition(place, by int) impl.Condition {
	return impl.Condition{Place: place, By: by}
}

// branching is a net with an unfolding.
type branching struct {
	n     impl.Net
	start string
	u     impl.Unfolding
}

// unfolded has the given events, valid or not, and the conditions that the document describes for them.
func unfolded(n impl.Net, start string, l ...impl.Event) branching {
	b := branching{n: n, start: start, u: impl.Unfolding{Events: l}}
	for p := range start {
		if start[p] == '1' {
			b.u.Conditions = append(b.u.Conditions, condition(p, -1))
		}
	}
	for i, e := range l {
		if e.T >= 0 && e.T < len(n.Transitions) {
			for _, p := range n.Transitions[e.T].Post {
				b.u.Conditions = append(b.u.Conditions, condition(p, i))
			}
		}
	}
	return b
}

func (b branching) plus(l ...impl.Event) branching {
	return unfolded(b.n, b.start, append(slices.Clone(b.u.Events), l...)...)
}

func (b branching) isValid() bool {
	return impl.IsValidUnfolding(b.n, b.start, b.u)
}

// netN is the net of the document's examples, and netU its unfolding U.
func netN() impl.Net {
	return net(4, move([]int{0}, []int{1, 2}), move([]int{1}, []int{1}), move([]int{2}, []int{3}))
}

func netU() branching {
	return unfolded(netN(), "1000", event(0, 0), event(1, 1), event(2, 2))
}

func sameEvents(a, b []impl.Event) bool {
	return slices.EqualFunc(a, b, func(e, f impl.Event) bool { return e.T == f.T && slices.Equal(e.Pre, f.Pre) })
}

func sameUnfolding(a, b impl.Unfolding) bool {
	return slices.Equal(a.Conditions, b.Conditions) && sameEvents(a.Events, b.Events)
}

func isZeroUnfolding(u impl.Unfolding) bool {
	return sameUnfolding(u, impl.Unfolding{})
}

// rulePast collects the local configurations of the producers of some conditions.
func (b branching) rulePast(conditions ...int) map[int]bool {
	past := map[int]bool{}
	for work := slices.Clone(conditions); len(work) > 0; work = work[1:] {
		if by := b.u.Conditions[work[0]].By; by >= 0 && !past[by] {
			past[by] = true
			work = append(work, b.u.Events[by].Pre...)
		}
	}
	return past
}

func (b branching) ruleLocal(e int) map[int]bool {
	local := b.rulePast(b.u.Events[e].Pre...)
	local[e] = true
	return local
}

func (b branching) hasRuleConflict(set map[int]bool) bool {
	for e := range set {
		for f := range set {
			if e != f && slices.ContainsFunc(b.u.Events[e].Pre, func(c int) bool { return slices.Contains(b.u.Events[f].Pre, c) }) {
				return true
			}
		}
	}
	return false
}

func (b branching) isRuleCoSet(conditions []int) bool {
	past := b.rulePast(conditions...)
	if b.hasRuleConflict(past) {
		return false
	}
	for i, c := range conditions {
		if slices.Contains(conditions[:i], c) {
			return false
		}
		for e := range past {
			if slices.Contains(b.u.Events[e].Pre, c) {
				return false
			}
		}
	}
	return true
}

// isRuleExtension reports whether e can be appended to the valid unfolding of b, regardless of the limits.
func (b branching) isRuleExtension(e impl.Event) bool {
	if e.T < 0 || e.T >= len(b.n.Transitions) {
		return false
	}
	var places []int
	for i, c := range e.Pre {
		if c < 0 || c >= len(b.u.Conditions) || i > 0 && c <= e.Pre[i-1] {
			return false
		}
		places = append(places, b.u.Conditions[c].Place)
	}
	slices.Sort(places)
	if !slices.Equal(places, b.n.Transitions[e.T].Pre) || !b.isRuleCoSet(e.Pre) {
		return false
	}
	return !slices.ContainsFunc(b.u.Events, func(other impl.Event) bool { return sameEvents([]impl.Event{other}, []impl.Event{e}) })
}

func (b branching) isRuleValid() bool {
	if !impl.IsValidMarking(b.n, b.start) || len(b.u.Events) > impl.MaxEvents || len(b.u.Conditions) > impl.MaxConditions {
		return false
	}
	for i, e := range b.u.Events {
		if !unfolded(b.n, b.start, b.u.Events[:i]...).isRuleExtension(e) {
			return false
		}
	}
	return slices.Equal(b.u.Conditions, unfolded(b.n, b.start, b.u.Events...).u.Conditions)
}

// increasingLists returns all increasing lists of size numbers below count, in lexicographic order.
func increasingLists(count, size int) [][]int {
	var all [][]int
	var extend func(l []int, first int)
	extend = func(l []int, first int) {
		if len(l) == size {
			all = append(all, slices.Clone(l))
			return
		}
		for i := first; i < count; i++ {
			extend(append(l, i), i+1)
		}
	}
	extend(nil, 0)
	return all
}

func (b branching) ruleExtensions() (l []impl.Event) {
	for by, t := range b.n.Transitions {
		for _, pre := range increasingLists(len(b.u.Conditions), len(t.Pre)) {
			if e := event(by, pre...); b.isRuleExtension(e) {
				l = append(l, e)
			}
		}
	}
	return l
}

func (b branching) isRuleConfiguration(list []int) bool {
	set := map[int]bool{}
	for _, e := range list {
		set[e] = true
	}
	for _, e := range list {
		for f := range b.ruleLocal(e) {
			if !set[f] {
				return false
			}
		}
	}
	return !b.hasRuleConflict(set)
}

func (b branching) ruleCut(list []int) (cut []int) {
	for c, condition := range b.u.Conditions {
		isThere := condition.By < 0 || slices.Contains(list, condition.By)
		for _, e := range list {
			isThere = isThere && !slices.Contains(b.u.Events[e].Pre, c)
		}
		if isThere {
			cut = append(cut, c)
		}
	}
	return cut
}

func (b branching) ruleRelation(e, f int) int {
	both := b.ruleLocal(e)
	maps.Copy(both, b.ruleLocal(f))
	switch {
	case e == f:
		return impl.RelEqual
	case b.ruleLocal(f)[e]:
		return impl.RelBefore
	case b.ruleLocal(e)[f]:
		return impl.RelAfter
	case b.hasRuleConflict(both):
		return impl.RelConflict
	}
	return impl.RelConcurrent
}

// checkExtensions compares the possible extensions, and what each of them is appended to.
func checkExtensions(t *testing.T, b branching, want []impl.Event) {
	t.Helper()
	got, ok := impl.PossibleExtensions(b.n, b.start, b.u)
	if !ok || !sameEvents(got, want) {
		t.Errorf("PossibleExtensions of %v: %v %v, not %v", b, got, ok, want)
	}
	for _, e := range want {
		checkAppended(t, b, e, true)
	}
}

func checkAppended(t *testing.T, b branching, e impl.Event, want bool) {
	t.Helper()
	longer := branching{}
	if want {
		longer = b.plus(e)
	}
	got, ok := impl.AppendEvent(b.n, b.start, b.u, e)
	if ok != want || !sameUnfolding(got, longer.u) {
		t.Errorf("AppendEvent %v to %v: %v %v", e, b, got, ok)
	}
	if ok && !impl.IsValidUnfolding(b.n, b.start, got) {
		t.Errorf("AppendEvent %v to %v is not valid", e, b)
	}
}

func checkRelation(t *testing.T, b branching, e, f, want int) {
	t.Helper()
	if got, ok := impl.EventRelation(b.n, b.start, b.u, e, f); !ok || got != want {
		t.Errorf("EventRelation of %d and %d in %v: %d %v, not %d", e, f, b, got, ok, want)
	}
}

func checkLocal(t *testing.T, b branching, e int, want ...int) {
	t.Helper()
	if got, ok := impl.LocalConfiguration(b.n, b.start, b.u, e); !ok || !slices.Equal(got, want) {
		t.Errorf("LocalConfiguration of %d in %v: %v %v, not %v", e, b, got, ok, want)
	}
}

func checkConfiguration(t *testing.T, b branching, list, cut []int, mark string) {
	t.Helper()
	if got, ok := impl.IsConfiguration(b.n, b.start, b.u, list); !ok || !got {
		t.Errorf("IsConfiguration %v of %v: %v %v", list, b, got, ok)
	}
	if got, ok := impl.CutConditions(b.n, b.start, b.u, list); !ok || !slices.Equal(got, cut) {
		t.Errorf("CutConditions %v of %v: %v %v, not %v", list, b, got, ok, cut)
	}
	if got, ok := impl.FinalMarking(b.n, b.start, b.u, list); !ok || got != mark {
		t.Errorf("FinalMarking %v of %v: %q %v, not %q", list, b, got, ok, mark)
	}
}

// checkNoConfiguration checks a list that is no configuration; isList tells whether it is an increasing list of events.
func checkNoConfiguration(t *testing.T, b branching, list []int, isList bool) {
	t.Helper()
	if got, ok := impl.IsConfiguration(b.n, b.start, b.u, list); ok != isList || got {
		t.Errorf("IsConfiguration %v of %v: %v %v", list, b, got, ok)
	}
	if got, ok := impl.CutConditions(b.n, b.start, b.u, list); ok || len(got) != 0 {
		t.Errorf("CutConditions %v of %v: %v %v", list, b, got, ok)
	}
	if got, ok := impl.FinalMarking(b.n, b.start, b.u, list); ok || got != "" {
		t.Errorf("FinalMarking %v of %v: %q %v", list, b, got, ok)
	}
}

func TestUnfoldingExamples(t *testing.T) {
	n, u := netN(), netU()
	want := impl.Unfolding{
		Conditions: []impl.Condition{condition(0, -1), condition(1, 0), condition(2, 0), condition(1, 1), condition(3, 2)},
		Events:     []impl.Event{event(0, 0), event(1, 1), event(2, 2)},
	}
	if !sameUnfolding(u.u, want) || !impl.IsValidUnfolding(n, "1000", want) {
		t.Errorf("IsValidUnfolding of U: %v", u.u)
	}
	initial, ok := impl.InitialUnfolding(n, "1000")
	if !ok || !sameUnfolding(initial, impl.Unfolding{Conditions: []impl.Condition{condition(0, -1)}}) {
		t.Errorf("InitialUnfolding: %v %v", initial, ok)
	}
	checkExtensions(t, unfolded(n, "1000"), []impl.Event{event(0, 0)})
	checkExtensions(t, unfolded(n, "1000", event(0, 0)), []impl.Event{event(1, 1), event(2, 2)})
	checkExtensions(t, u, []impl.Event{event(1, 3)})
	checkAppended(t, u, event(0, 0), false)
	checkLocal(t, u, 2, 0, 2)
	checkNoConfiguration(t, u, []int{1}, true)
	checkConfiguration(t, u, []int{0, 2}, []int{1, 4}, "0101")
	checkRelation(t, u, 1, 2, impl.RelConcurrent)
	checkRelation(t, u, 0, 2, impl.RelBefore)
}

func TestInitialUnfolding(t *testing.T) {
	full := net(impl.MaxPlaces, move(upTo(impl.MaxPlaces), nil))
	for _, k := range []struct {
		n     impl.Net
		start string
		want  []int
	}{
		{netN(), "0000", nil}, {netN(), "1111", []int{0, 1, 2, 3}}, {netN(), "0101", []int{1, 3}}, {netN(), "0001", []int{3}}, {net(1), "1", []int{0}}, {net(1), "0", nil},
		{full, strings.Repeat("1", impl.MaxPlaces), upTo(impl.MaxPlaces)},
	} {
		var want impl.Unfolding
		for _, p := range k.want {
			want.Conditions = append(want.Conditions, condition(p, -1))
		}
		got, ok := impl.InitialUnfolding(k.n, k.start)
		if !ok || !sameUnfolding(got, want) || !impl.IsValidUnfolding(k.n, k.start, got) {
			t.Errorf("InitialUnfolding of %v from %q: %v %v", k.n, k.start, got, ok)
		}
		checkConfiguration(t, branching{k.n, k.start, got}, nil, upTo(len(k.want)), k.start)
	}
	checkExtensions(t, unfolded(full, strings.Repeat("1", impl.MaxPlaces)), []impl.Event{event(0, upTo(impl.MaxPlaces)...)})
	checkExtensions(t, unfolded(full, strings.Repeat("1", impl.MaxPlaces-1)+"0"), nil)
	checkExtensions(t, unfolded(netN(), "0001"), nil)
	checkExtensions(t, unfolded(net(2), "11"), nil)
	for _, start := range []string{"", "100", "10000", "100x", "10 0"} {
		if got, ok := impl.InitialUnfolding(netN(), start); ok || !isZeroUnfolding(got) {
			t.Errorf("InitialUnfolding from %q: %v %v", start, got, ok)
		}
	}
	for _, n := range invalidNets() {
		if got, ok := impl.InitialUnfolding(n, strings.Repeat("1", max(0, min(n.Places, 40)))); ok || !isZeroUnfolding(got) {
			t.Errorf("InitialUnfolding of %v: %v %v", n, got, ok)
		}
	}
}

// choices is a net with two transitions that compete for place 0 and what follows each of them; transition 6 needs both ways.
func choices() impl.Net {
	return net(8, move([]int{0}, []int{1}), move([]int{0}, []int{2}), move([]int{1}, []int{3}), move([]int{2}, []int{4}),
		move([]int{5}, []int{6}), move([]int{3, 6}, []int{7}), move([]int{3, 4}, []int{7}), move([]int{0, 3}, nil), move([]int{0, 1}, nil))
}

// choicesTaken has all events of the two ways: conditions 2 and 3 in the places 1 and 2, 4 and 5 in the places 3 and 4, 6 in place 6.
func choicesTaken() branching {
	return unfolded(choices(), "10000100", event(0, 0), event(1, 0), event(2, 2), event(3, 3), event(4, 1))
}

func TestValidUnfoldings(t *testing.T) {
	twin := net(3, move([]int{0}, []int{1}), move([]int{0}, []int{1}), move([]int{1}, nil))
	loop := net(2, move([]int{0}, []int{0, 1}), move([]int{0, 1}, []int{1}), move([]int{1}, nil))
	for name, b := range map[string]branching{
		"no events":                               unfolded(netN(), "1000"),
		"no events and no conditions":             unfolded(netN(), "0000"),
		"no transitions":                          unfolded(net(2), "11"),
		"the document's example":                  netU(),
		"its events in another order":             unfolded(netN(), "1000", event(0, 0), event(2, 2), event(1, 1)),
		"differ in T alone":                       unfolded(twin, "100", event(1, 0), event(0, 0)),
		"differ in Pre alone":                     unfolded(twin, "100", event(1, 0), event(0, 0), event(2, 2), event(2, 1)),
		"an empty Post at the end":                unfolded(twin, "110", event(2, 1)),
		"an empty Post in between":                unfolded(twin, "110", event(2, 1), event(0, 0), event(2, 2)),
		"a token put back":                        unfolded(netN(), "0100", event(1, 0), event(1, 1), event(1, 2)),
		"a condition in conflict with another":    choicesTaken(),
		"both places of a transition":             choicesTaken().plus(event(5, 4, 6)),
		"places of Pre in another order":          unfolded(loop, "10", event(0, 0), event(0, 1), event(1, 2, 3)),
		"two conditions of one place":             unfolded(loop, "10", event(0, 0), event(0, 1), event(2, 2), event(2, 4)),
		"two conditions of one place, concurrent": unfolded(loop, "10", event(0, 0), event(0, 1), event(1, 2, 3), event(1, 3, 4)),
	} {
		if !b.isValid() || !b.isRuleValid() {
			t.Errorf("IsValidUnfolding, %s: %v", name, b)
		}
	}
}

func TestInvalidEvents(t *testing.T) {
	twin := net(3, move([]int{0}, []int{1}), move([]int{0}, []int{1}), move([]int{1}, nil), move([]int{0, 1}, nil))
	loop := net(2, move([]int{0}, []int{0, 1}), move([]int{0, 1}, []int{1}))
	loops := unfolded(loop, "10", event(0, 0), event(0, 1))
	for name, k := range map[string]struct {
		b branching
		e impl.Event
	}{
		"no such transition":                          {netU(), event(3, 3)},
		"a negative transition":                       {netU(), event(-1, 3)},
		"far off":                                     {netU(), event(math.MaxInt, 3)},
		"another place":                               {netU(), event(2, 3)},
		"no condition":                                {netU(), event(1)},
		"one condition too many":                      {netU(), event(1, 3, 4)},
		"one condition missing":                       {choicesTaken(), event(5, 4)},
		"no such condition":                           {netU(), event(1, 5)},
		"its own condition":                           {unfolded(netN(), "0100"), event(1, 1)},
		"a negative condition":                        {netU(), event(1, -1)},
		"far off conditions":                          {netU(), event(1, math.MinInt, math.MaxInt)},
		"contained":                                   {netU(), event(2, 2)},
		"contained at the start":                      {netU(), event(0, 0)},
		"contained twice in T":                        {unfolded(twin, "100", event(0, 0), event(1, 0)), event(1, 0)},
		"decreasing":                                  {choicesTaken(), event(5, 6, 4)},
		"a condition twice":                           {unfolded(twin, "110"), event(3, 0, 0)},
		"a condition twice, one place":                {unfolded(twin, "110"), event(0, 0, 0)},
		"two conditions of one place":                 {loops, event(0, 3, 3)},
		"two conditions of one place, one is missing": {loops, event(1, 2, 4)},
		"two conditions of one place, one too many":   {loops, event(1, 2, 3, 4)},
		"direct conflict of the producers":            {unfolded(net(3, move([]int{0}, []int{1}), move([]int{0}, []int{2}), move([]int{1, 2}, nil)), "100", event(0, 0), event(1, 0)), event(2, 1, 2)},
		"direct conflict further back":                {choicesTaken(), event(6, 4, 5)},
		"consumed by the producer of another one":     {choicesTaken(), event(8, 0, 2)},
		"consumed further back":                       {choicesTaken(), event(7, 0, 4)},
		"consumed further back in a loop":             {loops, event(1, 1, 4)},
		"consumed in its own past":                    {loops, event(1, 0, 2)},
	} {
		if !k.b.isValid() || k.b.isRuleExtension(k.e) {
			t.Errorf("%s: the case is wrong", name)
		}
		if longer := k.b.plus(k.e); longer.isValid() {
			t.Errorf("IsValidUnfolding, %s: %v", name, longer)
		} else {
			checkNoUnfolding(t, longer)
		}
		checkAppended(t, k.b, k.e, false)
	}
	for name, b := range map[string]branching{
		"an invalid event in front":     unfolded(netN(), "1000", event(0, 1), event(0, 0)),
		"a cause behind its effect":     unfolded(netN(), "1000", event(1, 1), event(0, 0)),
		"a cause behind, later numbers": unfolded(netN(), "1000", event(1, 2), event(0, 0)),
		"two events that cause another": unfolded(net(2, move([]int{0}, []int{0})), "11", event(0, 2), event(0, 3)),
		"the first event twice":         unfolded(netN(), "1000", event(0, 0), event(0, 0), event(1, 1)),
	} {
		if b.isValid() {
			t.Errorf("IsValidUnfolding, %s: %v", name, b)
		}
		checkNoUnfolding(t, b)
	}
}

func TestInvalidConditions(t *testing.T) {
	for name, change := range map[string]func(u *impl.Unfolding){
		"none":                      func(u *impl.Unfolding) { u.Conditions = nil },
		"the first one is missing":  func(u *impl.Unfolding) { u.Conditions = u.Conditions[1:] },
		"the last one is missing":   func(u *impl.Unfolding) { u.Conditions = u.Conditions[:4] },
		"one in between is missing": func(u *impl.Unfolding) { u.Conditions = slices.Delete(u.Conditions, 3, 4) },
		"one is left over":          func(u *impl.Unfolding) { u.Conditions = append(u.Conditions, condition(3, 2)) },
		"an initial one left over":  func(u *impl.Unfolding) { u.Conditions = append(u.Conditions, condition(0, -1)) },
		"one left over in front":    func(u *impl.Unfolding) { u.Conditions = slices.Insert(u.Conditions, 0, condition(0, -1)) },
		"left over without events":  func(u *impl.Unfolding) { u.Events = nil },
		"left over by an event":     func(u *impl.Unfolding) { u.Events = u.Events[:2] },
		"missing for an event":      func(u *impl.Unfolding) { u.Events = append(u.Events, event(1, 3)) },
		"Post in another order":     func(u *impl.Unfolding) { u.Conditions[1], u.Conditions[2] = u.Conditions[2], u.Conditions[1] },
		"events in another order":   func(u *impl.Unfolding) { u.Conditions[3], u.Conditions[4] = u.Conditions[4], u.Conditions[3] },
		"the initial one later":     func(u *impl.Unfolding) { u.Conditions[0], u.Conditions[4] = u.Conditions[4], u.Conditions[0] },
		"By is another event":       func(u *impl.Unfolding) { u.Conditions[3].By = 2 },
		"By is an earlier event":    func(u *impl.Unfolding) { u.Conditions[4].By = 0 },
		"By is no event":            func(u *impl.Unfolding) { u.Conditions[4].By = -1 },
		"By is behind the events":   func(u *impl.Unfolding) { u.Conditions[4].By = 3 },
		"By is far off":             func(u *impl.Unfolding) { u.Conditions[2].By = math.MinInt },
		"the initial one has By 0":  func(u *impl.Unfolding) { u.Conditions[0].By = 0 },
		"the initial one has By -2": func(u *impl.Unfolding) { u.Conditions[0].By = -2 },
		"another place":             func(u *impl.Unfolding) { u.Conditions[4].Place = 2 },
		"another initial place":     func(u *impl.Unfolding) { u.Conditions[0].Place = 1 },
		"no such place":             func(u *impl.Unfolding) { u.Conditions[4].Place = 4 },
		"a far off place":           func(u *impl.Unfolding) { u.Conditions[1].Place = math.MaxInt },
	} {
		b := netU()
		change(&b.u)
		if b.isValid() {
			t.Errorf("IsValidUnfolding, %s: %v", name, b.u)
		}
		checkNoUnfolding(t, b)
	}
	for _, start := range []string{"0000", "0100", "1100", "1001", "", "100", "10000", "100x"} {
		b := netU()
		b.start = start
		if b.isValid() {
			t.Errorf("IsValidUnfolding from %q", start)
		}
		checkNoUnfolding(t, b)
	}
	swapped := unfolded(netN(), "1100")
	slices.Reverse(swapped.u.Conditions)
	checkNoUnfolding(t, swapped)
	for _, n := range invalidNets() {
		checkNoUnfolding(t, unfolded(n, strings.Repeat("1", max(0, min(n.Places, 40)))))
	}
}

// checkNoUnfolding checks that every result for an invalid unfolding is zero.
func checkNoUnfolding(t *testing.T, b branching) {
	t.Helper()
	defer mustNotPanic(t, "a function of chapter 7")
	if b.isValid() {
		t.Errorf("IsValidUnfolding of %v", b)
	}
	if got, ok := impl.PossibleExtensions(b.n, b.start, b.u); ok || len(got) != 0 {
		t.Errorf("PossibleExtensions of %v: %v %v", b, got, ok)
	}
	for _, e := range append([]impl.Event{{}, event(0, 0), event(1, 3), event(2, 2)}, b.u.Events...) {
		if got, ok := impl.AppendEvent(b.n, b.start, b.u, e); ok || !isZeroUnfolding(got) {
			t.Errorf("AppendEvent %v to %v: %v %v", e, b, got, ok)
		}
	}
	for e := range 3 {
		if got, ok := impl.LocalConfiguration(b.n, b.start, b.u, e); ok || len(got) != 0 {
			t.Errorf("LocalConfiguration of %d in %v: %v %v", e, b, got, ok)
		}
		for f := range 3 {
			if got, ok := impl.EventRelation(b.n, b.start, b.u, e, f); ok || got != 0 {
				t.Errorf("EventRelation of %d and %d in %v: %d %v", e, f, b, got, ok)
			}
		}
		checkNoConfiguration(t, b, upTo(e), false)
	}
}

// TestEventLimit meets 60 events exactly: a token is put back 60 times.
func TestEventLimit(t *testing.T) {
	n := net(2, move([]int{0}, []int{0}), move([]int{0}, nil))
	b := unfolded(n, "10")
	next := []impl.Event{event(0, 0), event(1, 0)}
	for i := range impl.MaxEvents {
		checkExtensions(t, b, next)
		u, ok := impl.AppendEvent(b.n, b.start, b.u, event(0, i))
		if b = b.plus(event(0, i)); !ok || !sameUnfolding(u, b.u) || !b.isValid() {
			t.Fatalf("AppendEvent %d: %v %v", i, u, ok)
		}
		next = append(next, event(1, i+1))
		next[0] = event(0, i+1)
	}
	if got, ok := impl.PossibleExtensions(b.n, b.start, b.u); !ok || !sameEvents(got, next) {
		t.Errorf("PossibleExtensions of 60 events: %v %v", got, ok)
	}
	for _, e := range next {
		checkAppended(t, b, e, false)
		checkNoUnfolding(t, b.plus(e))
	}
	checkLocal(t, b, 59, upTo(60)...)
	checkLocal(t, b, 58, upTo(59)...)
	checkConfiguration(t, b, upTo(60), []int{60}, "10")
	checkConfiguration(t, b, upTo(59), []int{59}, "10")
	checkNoConfiguration(t, b, append(upTo(58), 59), true)
	checkNoConfiguration(t, b, upTo(61), false)
	checkRelation(t, b, 0, 59, impl.RelBefore)
	checkRelation(t, b, 59, 58, impl.RelAfter)
	checkRelation(t, b, 59, 59, impl.RelEqual)
	other := unfolded(n, "10", append(slices.Clone(b.u.Events[:59]), event(1, 58))...)
	checkRelation(t, other, 59, 58, impl.RelConflict)
	checkNoConfiguration(t, other, upTo(60), true)
	checkConfiguration(t, other, append(upTo(58), 59), nil, "00")
	long := b
	for i := impl.MaxEvents; i < 300; i++ {
		long = long.plus(event(0, i))
	}
	checkNoUnfolding(t, long)
}

// TestConditionLimit meets 200 conditions exactly: transition 0 makes 30 of them, the next ones 19 and 20, and transition 3 none.
func TestConditionLimit(t *testing.T) {
	all := upTo(impl.MaxPlaces)
	n := net(impl.MaxPlaces, move([]int{0}, all), move([]int{0}, all[:19]), move([]int{0}, all[:20]), move([]int{0}, nil), move([]int{0}, []int{29}))
	b := unfolded(n, "1"+strings.Repeat("0", impl.MaxPlaces-1))
	for i := range 6 {
		last := max(0, 1+30*(i-1))
		checkAppended(t, b, event(0, last), true)
		b = b.plus(event(0, last))
	}
	want := []impl.Event{event(0, 151), event(1, 151), event(2, 151), event(3, 151), event(4, 151)}
	got, ok := impl.PossibleExtensions(b.n, b.start, b.u)
	if all := b.ruleExtensions(); !ok || !sameEvents(got, all) || !slices.ContainsFunc(all, func(e impl.Event) bool { return sameEvents([]impl.Event{e}, want[:1]) }) {
		t.Errorf("PossibleExtensions of 181 conditions: %v %v", got, ok)
	}
	for i, isPossible := range []bool{false, true, false, true, true} {
		checkAppended(t, b, want[i], isPossible)
	}
	full := b.plus(want[1])
	if len(full.u.Conditions) != impl.MaxConditions || !full.isValid() {
		t.Errorf("IsValidUnfolding of 200 conditions: %d", len(full.u.Conditions))
	}
	if got, ok := impl.PossibleExtensions(full.n, full.start, full.u); !ok || !sameEvents(got, full.ruleExtensions()) {
		t.Errorf("PossibleExtensions of 200 conditions: %v %v", got, ok)
	}
	for i, isPossible := range []bool{false, false, false, true, false} {
		checkAppended(t, full, event(i, 181), isPossible)
	}
	checkLocal(t, full, 6, upTo(7)...)
	checkNoUnfolding(t, b.plus(want[2]))
	checkNoUnfolding(t, b.plus(want[0]))
	checkNoUnfolding(t, full.plus(event(4, 181)))
	if empty := full.plus(event(3, 181)); !empty.isValid() {
		t.Error("IsValidUnfolding of 200 conditions and an event without any")
	}
}

func TestOrderOfExtensions(t *testing.T) {
	loop := net(2, move([]int{0}, []int{0, 1}), move([]int{0, 1}, nil))
	b := unfolded(loop, "10", event(0, 0), event(0, 1), event(0, 3))
	pairs := []impl.Event{event(0, 5), event(1, 1, 2), event(1, 2, 3), event(1, 2, 5), event(1, 3, 4), event(1, 4, 5), event(1, 5, 6)}
	checkExtensions(t, b, pairs)
	checkExtensions(t, b.plus(event(1, 2, 5)), slices.Delete(slices.Clone(pairs), 3, 4))
	long := unfolded(loop, "10", event(0, 0), event(0, 1), event(0, 3), event(0, 5), event(0, 7))
	checkExtensions(t, long, []impl.Event{
		event(0, 9), event(1, 1, 2), event(1, 2, 3), event(1, 2, 5), event(1, 2, 7), event(1, 2, 9), event(1, 3, 4), event(1, 4, 5), event(1, 4, 7), event(1, 4, 9),
		event(1, 5, 6), event(1, 6, 7), event(1, 6, 9), event(1, 7, 8), event(1, 8, 9), event(1, 9, 10),
	})
	// The first transition needs what the second one makes, and equal transitions are told apart by their numbers.
	late := net(3, move([]int{1, 2}, nil), move([]int{0}, []int{1, 2}), move([]int{0}, []int{1, 2}), move([]int{2}, []int{2}))
	checkExtensions(t, unfolded(late, "100"), []impl.Event{event(1, 0), event(2, 0)})
	checkExtensions(t, unfolded(late, "100", event(2, 0), event(1, 0)), []impl.Event{event(0, 1, 2), event(0, 3, 4), event(3, 2), event(3, 4)})
	checkExtensions(t, unfolded(late, "100", event(2, 0), event(1, 0), event(3, 4), event(0, 1, 2)), []impl.Event{event(0, 3, 4), event(0, 3, 5), event(3, 2), event(3, 5)})
	checkExtensions(t, unfolded(late, "111"), []impl.Event{event(0, 1, 2), event(1, 0), event(2, 0), event(3, 2)})
	checkExtensions(t, choicesTaken(), []impl.Event{event(5, 4, 6)})
}

// TestManyChoices has billions of ways to choose conditions for transition 2, of which none or one is a co-set.
func TestManyChoices(t *testing.T) {
	n := net(impl.MaxPlaces, move([]int{0}, upTo(29)), move([]int{0}, []int{29}), move(upTo(impl.MaxPlaces)[1:], nil), move([]int{0, 1, 29}, nil))
	b := unfolded(n, "1"+strings.Repeat("0", impl.MaxPlaces-1))
	for _, c := range []int{0, 1, 30, 59, 88, 117} {
		b = b.plus(event(0, c))
	}
	check := func(b branching, want ...impl.Event) {
		t.Helper()
		want = append([]impl.Event{event(0, 146)}, want...)
		if got, ok := impl.PossibleExtensions(b.n, b.start, b.u); !ok || !sameEvents(got, want) {
			t.Errorf("PossibleExtensions: %v %v, not %v", got, ok, want)
		}
	}
	check(b, event(1, 0), event(1, 1), event(1, 30), event(1, 59), event(1, 88), event(1, 117), event(1, 146))
	check(b.plus(event(1, 0)), event(1, 1), event(1, 30), event(1, 59), event(1, 88), event(1, 117), event(1, 146))
	only := append(upTo(30)[2:], 175)
	check(b.plus(event(1, 1)), event(1, 0), event(1, 30), event(1, 59), event(1, 88), event(1, 117), event(1, 146), event(2, only...))
	checkAppended(t, b.plus(event(1, 1)), event(2, only...), true)
	check(b.plus(event(1, 1), event(2, only...)), event(1, 0), event(1, 30), event(1, 59), event(1, 88), event(1, 117), event(1, 146))
	checkAppended(t, b.plus(event(1, 1), event(1, 0)), event(2, append(upTo(30)[2:], 176)...), false)
}

func TestEventRelation(t *testing.T) {
	b := choicesTaken().plus(event(5, 4, 6))
	// Events 0 and 1 compete, 2 and 3 follow them, 4 is independent, and 5 needs 2 and 4.
	const eq, be, af, cf, co = impl.RelEqual, impl.RelBefore, impl.RelAfter, impl.RelConflict, impl.RelConcurrent
	for e, row := range [][]int{
		{eq, cf, be, cf, co, be},
		{cf, eq, cf, be, co, cf},
		{af, cf, eq, cf, co, be},
		{cf, af, cf, eq, co, cf},
		{co, co, co, co, eq, be},
		{af, cf, af, cf, af, eq},
	} {
		for f, want := range row {
			checkRelation(t, b, e, f, want)
		}
	}
	if eq != 0 || be != 1 || af != 2 || cf != 3 || co != 4 {
		t.Error("a relation has another number")
	}
	for _, k := range [][2]int{{-1, 0}, {0, -1}, {6, 0}, {0, 6}, {-1, -1}, {6, 6}, {60, 60}, {64, 0}, {math.MinInt, math.MaxInt}, {math.MaxInt, math.MaxInt}} {
		if got, ok := impl.EventRelation(b.n, b.start, b.u, k[0], k[1]); ok || got != 0 {
			t.Errorf("EventRelation of %v: %d %v", k, got, ok)
		}
	}
	// Two events that share a condition are in conflict although both need the same event.
	share := unfolded(net(3, move([]int{0}, []int{1}), move([]int{1}, []int{2}), move([]int{1}, nil)), "100", event(0, 0), event(1, 1), event(2, 1))
	checkRelation(t, share, 1, 2, impl.RelConflict)
	checkRelation(t, share, 2, 1, impl.RelConflict)
}

func TestLocalConfiguration(t *testing.T) {
	b := choicesTaken().plus(event(5, 4, 6))
	for e, want := range [][]int{{0}, {1}, {0, 2}, {1, 3}, {4}, {0, 2, 4, 5}} {
		checkLocal(t, b, e, want...)
	}
	for _, e := range []int{-1, 6, 59, 60, 63, 64, math.MinInt, math.MaxInt} {
		if got, ok := impl.LocalConfiguration(b.n, b.start, b.u, e); ok || len(got) != 0 {
			t.Errorf("LocalConfiguration of %d: %v %v", e, got, ok)
		}
	}
	if got, ok := impl.LocalConfiguration(b.n, b.start, unfolded(b.n, b.start).u, 0); ok || len(got) != 0 {
		t.Errorf("LocalConfiguration without events: %v %v", got, ok)
	}
}

func TestConfigurations(t *testing.T) {
	b := choicesTaken().plus(event(5, 4, 6))
	for _, k := range []struct {
		list, cut []int
		mark      string
	}{
		{nil, []int{0, 1}, "10000100"}, {[]int{}, []int{0, 1}, "10000100"}, {[]int{0}, []int{1, 2}, "01000100"}, {[]int{1}, []int{1, 3}, "00100100"}, {[]int{4}, []int{0, 6}, "10000010"},
		{[]int{0, 2}, []int{1, 4}, "00010100"}, {[]int{1, 3, 4}, []int{5, 6}, "00001010"}, {[]int{0, 4}, []int{2, 6}, "01000010"}, {[]int{0, 2, 4, 5}, []int{7}, "00000001"},
	} {
		checkConfiguration(t, b, k.list, k.cut, k.mark)
	}
	for name, list := range map[string][]int{
		"the cause is missing": {2}, "a cause further back is missing": {2, 4, 5}, "a cause in between is missing": {0, 4, 5}, "one of two causes is missing": {0, 2, 5},
		"direct conflict": {0, 1}, "conflict further back": {0, 1, 2, 3}, "conflict with a later event": {0, 1, 2}, "all": {0, 1, 2, 3, 4, 5},
	} {
		t.Run(name, func(t *testing.T) { checkNoConfiguration(t, b, list, true) })
	}
	for name, list := range map[string][]int{
		"decreasing": {4, 0}, "an event twice": {0, 0}, "an event twice at the end": {0, 2, 2}, "decreasing at the end": {0, 4, 2}, "no such event": {6}, "no such event at the end": {0, 6}, "a negative event": {-1}, "negative in front": {-1, 0},
		"far off": {math.MinInt}, "very far off": {0, math.MaxInt}, "the number of the limit": {0, 60}, "beyond a word": {0, 64},
	} {
		t.Run(name, func(t *testing.T) { checkNoConfiguration(t, b, list, false) })
	}
	// Two conditions of one place mark it once.
	twice := unfolded(net(2, move([]int{0}, []int{0, 1})), "10", event(0, 0), event(0, 1))
	checkConfiguration(t, twice, []int{0, 1}, []int{2, 3, 4}, "11")
	checkConfiguration(t, unfolded(net(2, move([]int{0}, nil)), "10", event(0, 0)), []int{0}, nil, "00")
}

// someBranching returns a random net with a random unfolding of at most the given number of events.
func someBranching(x *numbers, most int) branching {
	s := someNetGraph(x)
	b := unfolded(s.Net, s.Start)
	for range most {
		l, _ := impl.PossibleExtensions(b.n, b.start, b.u)
		if len(l) == 0 || x.below(12) == 0 {
			break
		}
		b = b.plus(l[x.below(len(l))])
	}
	return b
}

func (b branching) ruleMarking(cut []int) string {
	mark := []byte(strings.Repeat("0", b.n.Places))
	for _, c := range cut {
		mark[b.u.Conditions[c].Place] = '1'
	}
	return string(mark)
}

// checkFirings checks promise 7: the transitions of a configuration fire in this order, each place with a number of tokens, and lead to its final marking.
func checkFirings(t *testing.T, b branching, list []int, isSafe bool) {
	t.Helper()
	tokens := make([]int, b.n.Places)
	for p := range tokens {
		tokens[p] = int(b.start[p] - '0')
	}
	var l []int
	for _, e := range list {
		l = append(l, b.u.Events[e].T)
		for _, p := range b.n.Transitions[b.u.Events[e].T].Pre {
			if tokens[p]--; tokens[p] < 0 {
				t.Fatalf("%v of %v cannot fire", list, b)
			}
		}
		for _, p := range b.n.Transitions[b.u.Events[e].T].Post {
			tokens[p]++
		}
	}
	mark := []byte(strings.Repeat("0", b.n.Places))
	for p := range tokens {
		if tokens[p] > 0 {
			mark[p] = '1'
		}
	}
	got, ok := impl.FinalMarking(b.n, b.start, b.u, list)
	if !ok || got != string(mark) {
		t.Errorf("FinalMarking %v of %v: %q %v, not %q", list, b, got, ok, mark)
	}
	fired, _, isFired := impl.FireSequence(b.n, b.start, l)
	if isSafe && !isFired || isFired && fired != got {
		t.Errorf("FireSequence %v of %v: %q %v, not %q", l, b, fired, isFired, got)
	}
}

// checkByRules compares all results for a valid unfolding with the document's words.
func checkByRules(t *testing.T, b branching, isSafe bool) (seen map[int]int) {
	t.Helper()
	seen = map[int]int{}
	checkExtensions(t, b, b.ruleExtensions())
	for e := range b.u.Events {
		checkLocal(t, b, e, slices.Sorted(maps.Keys(b.ruleLocal(e)))...)
		for f := range b.u.Events {
			want := b.ruleRelation(e, f)
			seen[want]++
			checkRelation(t, b, e, f, want)
		}
	}
	for bits := range 1 << min(6, len(b.u.Events)) {
		list := setOfPlaces(bits)
		if len(b.u.Events) > 6 {
			list = append(list, len(b.u.Events)-1)
		}
		if !b.isRuleConfiguration(list) {
			checkNoConfiguration(t, b, list, true)
			continue
		}
		cut := b.ruleCut(list)
		checkConfiguration(t, b, list, cut, b.ruleMarking(cut))
		checkFirings(t, b, list, isSafe)
	}
	return seen
}

// TestUnfoldingsByRules checks promise 7 on random nets, safe and unsafe.
func TestUnfoldingsByRules(t *testing.T) {
	x := numbers(41)
	seen := map[int]int{}
	large, unsafe := 0, 0
	for range 1500 {
		b := someBranching(&x, 8)
		if !b.isValid() || !b.isRuleValid() {
			t.Errorf("IsValidUnfolding of %v", b)
		}
		_, isUnsafe := impl.UnsafeTrace(unlabelled(b.start, b.n.Transitions...))
		for relation, count := range checkByRules(t, b, !isUnsafe) {
			seen[relation] += count
		}
		if len(b.u.Events) > 6 {
			large++
		}
		if isUnsafe {
			unsafe++
		}
	}
	if large < 200 || unsafe < 200 || unsafe > 1300 || seen[impl.RelConflict] < 1000 || seen[impl.RelConcurrent] < 1000 || seen[impl.RelBefore] != seen[impl.RelAfter] || seen[impl.RelAfter] < 1000 {
		t.Errorf("%d large unfoldings, %d of unsafe nets, relations %v", large, unsafe, seen)
	}
}

// TestLargeUnfoldings checks random unfoldings of up to 60 events, with configurations that are unions of local ones.
func TestLargeUnfoldings(t *testing.T) {
	x := numbers(42)
	full, wide := 0, 0
	for range 150 {
		s := with(rings(2, 3), "0"+markOf(3, x.below(8)), move([]int{1, 4}, []int{5, 6}), move([]int{5, 6}, []int{0, 2}), move([]int{7}, []int{8}), move([]int{2, 8}, []int{3, 7}))
		b := unfolded(s.Net, s.Start)
		for range impl.MaxEvents {
			l, ok := impl.PossibleExtensions(b.n, b.start, b.u)
			if !ok || len(l) == 0 {
				break
			}
			longer, ok := impl.AppendEvent(b.n, b.start, b.u, l[x.below(len(l))])
			if !ok {
				break
			}
			b.u = longer
		}
		if !b.isRuleValid() {
			t.Errorf("the unfolding is not valid: %v", b)
		}
		if len(b.u.Events) == impl.MaxEvents {
			full++
		}
		_, isUnsafe := impl.UnsafeTrace(s)
		for range 20 {
			if checkSomeConfiguration(t, &x, b, !isUnsafe) > 10 {
				wide++
			}
		}
	}
	if full < 50 || wide < 200 {
		t.Errorf("only %d unfoldings of 60 events, %d configurations of more than 10", full, wide)
	}
}

// checkSomeConfiguration checks a union of local configurations, and a relation. It returns the size of the configuration, or 0.
func checkSomeConfiguration(t *testing.T, x *numbers, b branching, isSafe bool) int {
	t.Helper()
	count := len(b.u.Events)
	if count == 0 {
		return 0
	}
	e, f := x.below(count), x.below(count)
	want := b.ruleRelation(e, f)
	checkRelation(t, b, e, f, want)
	set := b.ruleLocal(e)
	maps.Copy(set, b.ruleLocal(f))
	list := slices.Sorted(maps.Keys(set))
	if want == impl.RelConflict {
		checkNoConfiguration(t, b, list, true)
		return 0
	}
	checkFirings(t, b, list, isSafe)
	cut := b.ruleCut(list)
	checkConfiguration(t, b, list, cut, b.ruleMarking(cut))
	if missing := slices.Delete(slices.Clone(list), 0, 1); len(missing) > 0 {
		if is, ok := impl.IsConfiguration(b.n, b.start, b.u, missing); !ok || is != b.isRuleConfiguration(missing) {
			t.Errorf("IsConfiguration %v of %v: %v %v", missing, b, is, ok)
		}
	}
	return len(list)
}

// someEvent is an extension or nearly one: mostly it has a condition of each Pre place of its transition.
func someEvent(x *numbers, b branching) impl.Event {
	e := event(x.below(len(b.n.Transitions)+2) - 1)
	places := []int{0}
	if e.T >= 0 && e.T < len(b.n.Transitions) {
		places = b.n.Transitions[e.T].Pre
	}
	for _, p := range places {
		c := x.below(len(b.u.Conditions) + 1)
		for range 10 {
			if x.below(20) > 0 && (c == len(b.u.Conditions) || b.u.Conditions[c].Place != p) {
				c = x.below(len(b.u.Conditions) + 1)
			}
		}
		e.Pre = append(e.Pre, c)
	}
	if x.below(20) > 0 {
		slices.Sort(e.Pre)
	}
	return e
}

// spoiled returns b with something changed, which may leave it valid.
func spoiled(x *numbers, b branching) branching {
	events := slices.Clone(b.u.Events)
	for i, e := range events {
		events[i].Pre = slices.Clone(e.Pre)
	}
	conditions := slices.Clone(b.u.Conditions)
	i, k := x.below(max(1, len(events))), x.below(max(1, len(conditions)))
	switch way := x.below(12); {
	case way == 0 || len(events) == 0 || len(conditions) == 0:
		events = append(events, someEvent(x, b))
	case way == 1:
		events[i] = someEvent(x, b)
	case way == 2:
		events[i].T = x.below(len(b.n.Transitions)+2) - 1
	case way == 3 && len(events[i].Pre) > 0:
		events[i].Pre[x.below(len(events[i].Pre))] += 1 - 2*x.below(2)
	case way == 4:
		events = slices.Insert(events, i, someEvent(x, b))
	case way == 5:
		events = slices.Delete(events, i, i+1)
	case way == 6:
		j := x.below(len(events))
		events[i], events[j] = events[j], events[i]
	case way == 7:
		conditions[k].By = x.below(len(events)+2) - 1
		return branching{b.n, b.start, impl.Unfolding{Conditions: conditions, Events: events}}
	case way == 8:
		conditions[k].Place = x.below(b.n.Places)
		return branching{b.n, b.start, impl.Unfolding{Conditions: conditions, Events: events}}
	case way == 9:
		j := x.below(len(conditions))
		conditions[k], conditions[j] = conditions[j], conditions[k]
		return branching{b.n, b.start, impl.Unfolding{Conditions: conditions, Events: events}}
	case way == 10:
		return branching{b.n, b.start, impl.Unfolding{Conditions: slices.Delete(conditions, k, k+1), Events: events}}
	default:
		return branching{b.n, b.start, impl.Unfolding{Conditions: slices.Insert(conditions, k, condition(x.below(b.n.Places), i)), Events: events}}
	}
	return unfolded(b.n, b.start, events...)
}

// TestSpoiledUnfoldings compares the validity of unfoldings that are nearly valid, and events that can nearly be appended.
func TestSpoiledUnfoldings(t *testing.T) {
	x := numbers(43)
	valid, invalid, appended, refused := 0, 0, 0, 0
	for range 12000 {
		b := someBranching(&x, 7)
		if len(b.n.Transitions) == 0 {
			continue
		}
		for range 3 {
			e := someEvent(&x, b)
			want := b.isRuleExtension(e)
			checkAppended(t, b, e, want)
			if want {
				appended++
			} else {
				refused++
			}
		}
		other := spoiled(&x, b)
		if !other.isRuleValid() {
			invalid++
			checkNoUnfolding(t, other)
		} else if valid++; !other.isValid() {
			t.Errorf("IsValidUnfolding of %v", other)
		}
	}
	if valid < 1000 || invalid < 5000 || appended < 2000 || refused < 10000 {
		t.Errorf("only %d valid and %d invalid unfoldings, %d appended and %d refused events", valid, invalid, appended, refused)
	}
}

func eventsWithSpare(l []impl.Event) []impl.Event {
	full := make([]impl.Event, 0, len(l)+1)
	for _, e := range l {
		full = append(full, impl.Event{T: e.T, Pre: withSpare(e.Pre)})
	}
	return append(full, event(guard, guard))[:len(l)]
}

func unfoldingWithSpare(u impl.Unfolding) impl.Unfolding {
	conditions := append(append(make([]impl.Condition, 0, len(u.Conditions)+1), u.Conditions...), condition(guard, guard))
	return impl.Unfolding{Conditions: conditions[:len(u.Conditions)], Events: eventsWithSpare(u.Events)}
}

func wholeUnfolding(u impl.Unfolding) impl.Unfolding {
	all := slices.Clone(u.Events[:cap(u.Events)])
	for i, e := range all {
		all[i].Pre = wholeInts(e.Pre)
	}
	return impl.Unfolding{Conditions: slices.Clone(u.Conditions[:cap(u.Conditions)]), Events: all}
}

// overwriteEvents writes to everything that l reaches, its capacity included.
func overwriteEvents(l []impl.Event) {
	for _, e := range l {
		overwriteInts(e.Pre)
	}
	clear(l[:cap(l)])
}

func eventsShare(l []impl.Event) bool {
	var n impl.Net
	for _, e := range l {
		n.Transitions = append(n.Transitions, move(e.Pre, nil))
	}
	return listsShare(n)
}

// checkEventCalls checks promise 29 for chapter 7.
func checkEventCalls(t *testing.T, b branching, h impl.Event, list []int, e, f int) {
	t.Helper()
	defer mustNotPanic(t, "a function of chapter 7")
	n, u, list := netWithSpare(b.n), unfoldingWithSpare(b.u), withSpare(list)
	h.Pre = withSpare(h.Pre)
	beforeN, beforeU, beforeList, beforePre := wholeNet(n), wholeUnfolding(u), wholeInts(list), wholeInts(h.Pre)
	impl.IsValidUnfolding(n, b.start, u)
	impl.InitialUnfolding(n, b.start)
	impl.PossibleExtensions(n, b.start, u)
	impl.AppendEvent(n, b.start, u, h)
	impl.LocalConfiguration(n, b.start, u, e)
	impl.IsConfiguration(n, b.start, u, list)
	impl.CutConditions(n, b.start, u, list)
	impl.FinalMarking(n, b.start, u, list)
	impl.EventRelation(n, b.start, u, e, f)
	if !reflect.DeepEqual(wholeNet(n), beforeN) || !reflect.DeepEqual(wholeUnfolding(u), beforeU) || !slices.Equal(wholeInts(list), beforeList) || !slices.Equal(wholeInts(h.Pre), beforePre) {
		t.Errorf("an argument has changed: %v %v %v", b, h, list)
	}
}

func TestUnfoldingsNoPanicNoChange(t *testing.T) {
	odd := []int{0, 1, 2, 3, 59, 60, 63, 64, 199, 200, -1, -2, math.MaxInt, math.MinInt}
	x := numbers(44)
	for i := range 4000 {
		b := spoiled(&x, someBranchingWithTransitions(&x))
		e, f := odd[x.below(len(odd))], odd[x.below(len(odd))]
		h := someEvent(&x, b)
		if x.below(3) == 0 {
			h.Pre = append(h.Pre, e)
			h.T = f
		}
		if x.below(3) == 0 && len(b.u.Events) > 0 {
			b.u.Events[0].T = f
			b.u.Events[len(b.u.Events)-1].Pre = []int{e, f}
		}
		if x.below(4) == 0 && len(b.u.Conditions) > 0 {
			b.u.Conditions[x.below(len(b.u.Conditions))] = condition(e, f)
		}
		checkEventCalls(t, b, h, []int{e, f}[:i%3], e, f)
		checkEventCalls(t, b, h, setOfPlaces(x.below(1<<len(b.u.Events))), x.below(8), x.below(8))
	}
	for _, n := range append(invalidNets(), netN(), net(1)) {
		for _, start := range []string{"", "1", "1000", strings.Repeat("1", max(0, min(n.Places, 40)))} {
			checkEventCalls(t, branching{n, start, netU().u}, event(1, 3), upTo(2), 0, 2)
			checkEventCalls(t, branching{n, start, impl.Unfolding{}}, impl.Event{}, nil, 0, 0)
		}
	}
	huge := branching{netN(), "1000", impl.Unfolding{Conditions: slices.Repeat(netU().u.Conditions, 2000), Events: slices.Repeat(netU().u.Events, 2000)}}
	checkEventCalls(t, huge, event(1, upTo(10000)...), upTo(6000), 5999, 64)
	checkEventCalls(t, netU(), event(1, upTo(10000)...), upTo(6000), 5999, 64)
	checkNoUnfolding(t, huge)
}

func someBranchingWithTransitions(x *numbers) branching {
	for {
		if b := someBranching(x, 6); len(b.n.Transitions) > 0 {
			return b
		}
	}
}

// TestUnfoldingsNewMemory checks that no result shares memory with an argument, a later result or another part of itself.
func TestUnfoldingsNewMemory(t *testing.T) {
	loop := net(2, move([]int{0}, []int{0, 1}), move([]int{0, 1}, nil))
	source := unfolded(loop, "10", event(0, 0), event(0, 1), event(0, 3))
	n, u := netWithSpare(source.n), unfoldingWithSpare(source.u)
	h := impl.Event{T: 1, Pre: withSpare([]int{2, 5})}
	beforeN, beforeU, beforePre := wholeNet(n), wholeUnfolding(u), wholeInts(h.Pre)
	b := branching{n, source.start, u}
	want := b.ruleExtensions()
	for range 2 {
		initial, ok := impl.InitialUnfolding(n, b.start)
		if !ok || !sameUnfolding(initial, unfolded(loop, "10").u) {
			t.Errorf("a result of InitialUnfolding is kept: %v %v", initial, ok)
		}
		clear(initial.Conditions[:cap(initial.Conditions)])
		longer, ok := impl.AppendEvent(n, b.start, u, h)
		if !ok || !sameUnfolding(longer, source.plus(event(1, 2, 5)).u) || eventsShare(longer.Events) {
			t.Errorf("a result of AppendEvent is kept or shares memory: %v %v", longer, ok)
		}
		overwriteEvents(longer.Events)
		clear(longer.Conditions[:cap(longer.Conditions)])
		extensions, ok := impl.PossibleExtensions(n, b.start, u)
		if !ok || !sameEvents(extensions, want) || eventsShare(extensions) {
			t.Errorf("a result of PossibleExtensions is kept or shares memory: %v %v", extensions, ok)
		}
		overwriteEvents(extensions)
		local, ok := impl.LocalConfiguration(n, b.start, u, 2)
		if !ok || !slices.Equal(local, []int{0, 1, 2}) {
			t.Errorf("a result of LocalConfiguration is kept: %v %v", local, ok)
		}
		overwriteInts(local)
		list := withSpare(upTo(2))
		cut, ok := impl.CutConditions(n, b.start, u, list)
		if !ok || !slices.Equal(cut, []int{2, 3, 4}) {
			t.Errorf("a result of CutConditions is kept: %v %v", cut, ok)
		}
		overwriteInts(cut)
		if !slices.Equal(list, upTo(2)) {
			t.Errorf("a result of CutConditions is its argument: %v", list)
		}
	}
	if !reflect.DeepEqual(wholeNet(n), beforeN) || !reflect.DeepEqual(wholeUnfolding(u), beforeU) || !slices.Equal(wholeInts(h.Pre), beforePre) {
		t.Error(fmt.Sprint("a result shares memory with an argument: ", n, u, h))
	}
}
