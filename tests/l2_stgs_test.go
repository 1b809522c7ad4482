package tests

import (
	"fmt"
	"math"
	"reflect"
	"slices"
	"strings"
	"testing"

	"loop.example/g00862/impl"
)

func up(sig int) impl.Label   { return impl.Label{Sig: sig, Up: true} }
func down(sig int) impl.Label { return impl.Label{Sig: sig} }
func dummy() impl.Label       { return impl.Label{Sig: -1} }

func signal(name string, kind int) impl.Signal {
	return impl.Signal{Name: name, Kind: kind}
}

// buffer is the buffer of the document's examples.
func buffer() impl.STG {
	return impl.STG{
		Net: net(4, move([]int{3}, []int{0}), move([]int{0}, []int{1}),
			move([]int{1}, []int{2}), move([]int{2}, []int{3})),
		Signals: []impl.Signal{signal("a", impl.Input), signal("b", impl.Output)},
		Labels:  []impl.Label{up(0), up(1), down(0), down(1)},
		Start:   "0001",
	}
}

// labelled returns a graph of one place whose transitions have the given labels.
func labelled(signals []impl.Signal, labels ...impl.Label) impl.STG {
	return impl.STG{Net: repeated(1, len(labels)), Signals: signals, Labels: labels, Start: "1"}
}

// inputs returns count signals whose names start with prefix.
func inputs(prefix string, count int) []impl.Signal {
	var l []impl.Signal
	for i := range count {
		l = append(l, signal(fmt.Sprint(prefix, i), impl.Input))
	}
	return l
}

// mixed has labels of one transition, shared labels, dummies and all kinds.
func mixed() impl.STG {
	signals := []impl.Signal{signal("a", impl.Input), signal("b1", impl.Output), signal("c", impl.Internal)}
	return labelled(signals, up(0), dummy(), up(1), down(0), up(0), down(2), dummy(), up(0), down(1), down(1))
}

func isZeroSTG(s impl.STG) bool {
	return isZeroNet(s.Net) && len(s.Signals) == 0 && len(s.Labels) == 0 && s.Start == ""
}

func sameSTG(a, b impl.STG) bool {
	return sameNet(a.Net, b.Net) && slices.Equal(a.Signals, b.Signals) && slices.Equal(a.Labels, b.Labels) && a.Start == b.Start
}

func stgWithSpare(s impl.STG) impl.STG {
	s.Net = netWithSpare(s.Net)
	s.Signals = append(append(make([]impl.Signal, 0, len(s.Signals)+1), s.Signals...), signal("guard", guard))[:len(s.Signals)]
	s.Labels = append(append(make([]impl.Label, 0, len(s.Labels)+1), s.Labels...), up(guard))[:len(s.Labels)]
	return s
}

func wholeSTG(s impl.STG) impl.STG {
	s.Net = wholeNet(s.Net)
	s.Signals = slices.Clone(s.Signals[:cap(s.Signals)])
	s.Labels = slices.Clone(s.Labels[:cap(s.Labels)])
	return s
}

func overwriteSTG(s impl.STG) {
	overwriteNet(s.Net)
	clear(s.Signals[:cap(s.Signals)])
	clear(s.Labels[:cap(s.Labels)])
}

// changed returns the buffer after a change to a copy of it.
func changed(change func(s *impl.STG)) impl.STG {
	s := buffer()
	change(&s)
	return s
}

func named(name string) impl.STG {
	return labelled([]impl.Signal{signal("a", impl.Input), signal(name, impl.Output)})
}

func ofKind(kind int) impl.STG {
	return labelled([]impl.Signal{signal("a", impl.Input), signal("b", kind)})
}

func validSTGs() []impl.STG {
	return []impl.STG{
		buffer(), mixed(), labelled(inputs("s", 1)), labelled(inputs("s", impl.MaxSignals)),
		labelled(inputs("s", 1), slices.Repeat([]impl.Label{dummy()}, impl.MaxTransitions)...),
		labelled(inputs("s", impl.MaxSignals), up(impl.MaxSignals-1), down(impl.MaxSignals-1), dummy()),
		named("z"), named("abcdef"), named("z09876"), named("aa"), named("a0"),
		ofKind(impl.Input), ofKind(impl.Output), ofKind(impl.Internal),
		{Net: net(impl.MaxPlaces), Signals: inputs("s", 1), Start: strings.Repeat("01", impl.MaxPlaces/2)},
		changed(func(s *impl.STG) { s.Start = "0000" }), changed(func(s *impl.STG) { s.Start = "1111" }),
	}
}

func invalidSTGs() []impl.STG {
	l := []impl.STG{
		{}, labelled(nil), labelled([]impl.Signal{}), labelled(inputs("s", impl.MaxSignals+1)),
		labelled(inputs("s", 1), slices.Repeat([]impl.Label{dummy()}, impl.MaxTransitions+1)...),
		named(""), named("a"), named("abcdefg"), named("1"), named("0a"), named("A"), named("aA"), named("a_"), named("a b"),
		named("a+"), named("~"), named("{"), named("`"), named("a/"), named("a:"), named("\x00"), named("a\xff"), named("\u00e9"),
		ofKind(0), ofKind(-1), ofKind(4), ofKind(math.MaxInt), ofKind(math.MinInt),
		labelled(inputs("s", 2), up(2)), labelled(inputs("s", 2), down(2)), labelled(inputs("s", 2), up(-1)),
		labelled(inputs("s", 2), down(-2)), labelled(inputs("s", 2), down(math.MaxInt)), labelled(inputs("s", 2), up(0), down(math.MinInt)),
		changed(func(s *impl.STG) { s.Labels = s.Labels[:3] }),
		changed(func(s *impl.STG) { s.Labels = nil }),
		changed(func(s *impl.STG) { s.Labels = append(s.Labels, dummy()) }),
		changed(func(s *impl.STG) { s.Signals = s.Signals[:1] }),
		changed(func(s *impl.STG) { s.Signals = nil }),
		changed(func(s *impl.STG) { s.Start = "" }),
		changed(func(s *impl.STG) { s.Start = "00010" }),
		changed(func(s *impl.STG) { s.Start = "000" }),
		changed(func(s *impl.STG) { s.Start = "0002" }),
	}
	for _, n := range invalidNets() {
		l = append(l, impl.STG{Net: n, Signals: inputs("s", 2), Labels: []impl.Label{up(0), up(1)}, Start: "10"})
	}
	return l
}

func TestIsValidSTG(t *testing.T) {
	for _, s := range validSTGs() {
		if !impl.IsValidSTG(s) {
			t.Errorf("not valid: %v", s)
		}
	}
	for _, s := range invalidSTGs() {
		if impl.IsValidSTG(s) {
			t.Errorf("valid: %v", s)
		}
	}
}

func TestSignalIndex(t *testing.T) {
	for _, s := range validSTGs() {
		for i, signal := range s.Signals {
			if got, ok := impl.SignalIndex(s, signal.Name); got != i || !ok {
				t.Errorf("SignalIndex %s: %d %v", signal.Name, got, ok)
			}
		}
		for _, name := range []string{"", "c9", "a+", "A", "b10", "aaaaaaa", "~", "a\x00"} {
			if got, ok := impl.SignalIndex(s, name); got != 0 || ok {
				t.Errorf("SignalIndex %q: %d %v", name, got, ok)
			}
		}
	}
}

func TestTransitionsOf(t *testing.T) {
	for _, c := range []struct {
		l    impl.Label
		want []int
	}{
		{up(0), []int{0, 4, 7}}, {down(0), []int{3}}, {up(1), []int{2}}, {down(1), []int{8, 9}}, {up(2), nil}, {down(2), []int{5}},
	} {
		if got, ok := impl.TransitionsOf(mixed(), c.l.Sig, c.l.Up); !ok || !slices.Equal(got, c.want) {
			t.Errorf("TransitionsOf %v: %v %v", c.l, got, ok)
		}
	}
	all := labelled(inputs("s", 1), slices.Repeat([]impl.Label{up(0)}, impl.MaxTransitions)...)
	if got, ok := impl.TransitionsOf(all, 0, true); !ok || !slices.Equal(got, upTo(impl.MaxTransitions)) {
		t.Errorf("TransitionsOf a label of all transitions: %v %v", got, ok)
	}
	for _, sig := range []int{-1, -2, 3, 4, math.MaxInt, math.MinInt} {
		for _, rises := range []bool{false, true} {
			if got, ok := impl.TransitionsOf(mixed(), sig, rises); ok || len(got) != 0 {
				t.Errorf("TransitionsOf %d: %v %v", sig, got, ok)
			}
		}
	}
}

func checkNames(t *testing.T, s impl.STG, want []string) {
	t.Helper()
	for i, name := range want {
		if got, ok := impl.TransitionName(s, i); got != name || !ok {
			t.Errorf("TransitionName %d of %v: %q %v, not %q", i, s.Labels, got, ok, name)
		}
		if got, ok := impl.TransitionByName(s, name); got != i || !ok {
			t.Errorf("TransitionByName %q of %v: %d %v", name, s.Labels, got, ok)
		}
	}
	for _, i := range []int{-1, len(want), len(want) + 1, math.MaxInt, math.MinInt} {
		if got, ok := impl.TransitionName(s, i); got != "" || ok {
			t.Errorf("TransitionName %d: %q %v", i, got, ok)
		}
	}
}

func TestTransitionNames(t *testing.T) {
	checkNames(t, buffer(), []string{"a+", "b+", "a-", "b-"})
	checkNames(t, mixed(), []string{"a+/1", "~/1", "b1+", "a-", "a+/2", "c-", "~/2", "a+/3", "b1-/1", "b1-/2"})
	checkNames(t, labelled(inputs("s", 1), dummy()), []string{"~"})
	checkNames(t, labelled(inputs("s", 1)), nil)
	var ranked []string
	for i := range impl.MaxTransitions {
		ranked = append(ranked, fmt.Sprint("s0-/", i+1))
	}
	checkNames(t, labelled(inputs("s", 1), slices.Repeat([]impl.Label{down(0)}, impl.MaxTransitions)...), ranked)
	for _, text := range []string{"", "a", "a+", "a+/", "a+/0", "a+/4", "a+/01", "a+/ 1", "a+/+1", "a+/11", "A+/1", "a-/1", "b1+/1",
		"c+", "c-/1", "~", "~/0", "~/3", "~+", "d+", "a+/1 ", " a+/1", "a+/1\n", "+", "/1", "b1-", "b-/1", "a+/99999999999999999999"} {
		if got, ok := impl.TransitionByName(mixed(), text); got != 0 || ok {
			t.Errorf("TransitionByName %q: %d %v", text, got, ok)
		}
	}
}

// TestNamesAreUnique checks promise 2 with names from the document's rule, on graphs with all labels.
func TestNamesAreUnique(t *testing.T) {
	x := numbers(3)
	for range 300 {
		s := someSTG(&x)
		checkNames(t, s, ruleNames(s))
		seen := map[string]bool{}
		for i := range s.Labels {
			name, _ := impl.TransitionName(s, i)
			if seen[name] {
				t.Errorf("two transitions are named %s", name)
			}
			seen[name] = true
		}
	}
}

func someSTG(x *numbers) impl.STG {
	signals := inputs("s", 1+x.below(3))
	for i := range signals {
		signals[i].Kind = 1 + x.below(3)
	}
	s := impl.STG{Net: net(2 + x.below(6)), Signals: signals}
	for range x.below(12) {
		s.Net.Transitions = append(s.Net.Transitions, move([]int{x.below(2)}, upTo(x.below(3))))
		if sig := x.below(len(signals)+1) - 1; sig < 0 {
			s.Labels = append(s.Labels, dummy())
		} else {
			s.Labels = append(s.Labels, impl.Label{Sig: sig, Up: x.below(2) == 1})
		}
	}
	s.Start = markOf(s.Net.Places, x.below(256))
	return s
}

func ruleNames(s impl.STG) []string {
	total, rank := map[impl.Label]int{}, map[impl.Label]int{}
	for _, l := range s.Labels {
		total[l]++
	}
	var names []string
	for _, l := range s.Labels {
		name := "~"
		if l.Sig >= 0 {
			name = s.Signals[l.Sig].Name + map[bool]string{true: "+", false: "-"}[l.Up]
		}
		rank[l]++
		if total[l] > 1 {
			name = fmt.Sprintf("%s/%d", name, rank[l])
		}
		names = append(names, name)
	}
	return names
}

func TestVisibleLabels(t *testing.T) {
	long := slices.Repeat([]int{0, 1}, 101)
	for _, c := range []struct {
		name string
		l    []int
		want []impl.Label
		ok   bool
	}{
		{"none", nil, nil, true},
		{"in order, repeated", []int{9, 0, 5, 0}, []impl.Label{down(1), up(0), down(2), up(0)}, true},
		{"without dummies", []int{1, 0, 6, 3, 1}, []impl.Label{up(0), down(0)}, true},
		{"only dummies", []int{1, 6, 1}, nil, true},
		{"longest", long[:200], slices.Repeat([]impl.Label{up(0)}, 100), true},
		{"too long", long[:201], nil, false},
		{"too long, only dummies", slices.Repeat([]int{1}, 201), nil, false},
		{"no such transition", []int{0, 10}, nil, false},
		{"negative", []int{0, -1}, nil, false},
		{"no such transition among dummies", []int{1, math.MaxInt, 1}, nil, false},
		{"the least number", []int{math.MinInt}, nil, false},
	} {
		if got, ok := impl.VisibleLabels(mixed(), c.l); ok != c.ok || !slices.Equal(got, c.want) {
			t.Errorf("VisibleLabels, %s: %v %v", c.name, got, ok)
		}
	}
}

func TestMirrorSTG(t *testing.T) {
	want := changed(func(s *impl.STG) { s.Signals[0].Kind, s.Signals[1].Kind = impl.Output, impl.Input })
	if got, ok := impl.MirrorSTG(buffer()); !ok || !sameSTG(got, want) {
		t.Errorf("MirrorSTG: %v %v", got, ok)
	}
	for i := range 2 {
		inner := changed(func(s *impl.STG) { s.Signals[i].Kind = impl.Internal })
		if got, ok := impl.MirrorSTG(inner); ok || !isZeroSTG(got) {
			t.Errorf("MirrorSTG with an internal signal: %v %v", got, ok)
		}
	}
}

// TestMirrorTwice checks promise 2: mirroring is an involution where it succeeds.
func TestMirrorTwice(t *testing.T) {
	x := numbers(4)
	mirrored := 0
	for range 500 {
		s := someSTG(&x)
		inner := slices.ContainsFunc(s.Signals, func(s impl.Signal) bool { return s.Kind == impl.Internal })
		once, ok := impl.MirrorSTG(s)
		if ok == inner {
			t.Errorf("MirrorSTG of %v: %v", s, ok)
		}
		if !ok {
			continue
		}
		mirrored++
		if twice, ok := impl.MirrorSTG(once); !ok || !sameSTG(twice, s) || !impl.EqualSTG(twice, s) || sameSTG(once, s) {
			t.Errorf("MirrorSTG of %v twice: %v %v", s, twice, ok)
		}
	}
	if mirrored < 50 {
		t.Errorf("only %d graphs", mirrored)
	}
}

func TestHideSignal(t *testing.T) {
	for sig, want := range [][]impl.Label{
		{dummy(), dummy(), up(0), dummy(), dummy(), down(1), dummy(), dummy(), down(0), down(0)},
		{up(0), dummy(), dummy(), down(0), up(0), down(1), dummy(), up(0), dummy(), dummy()},
		{up(0), dummy(), up(1), down(0), up(0), dummy(), dummy(), up(0), down(1), down(1)},
	} {
		s := mixed()
		s.Labels = want
		s.Signals = slices.Delete(s.Signals, sig, sig+1)
		if got, ok := impl.HideSignal(mixed(), sig); !ok || !sameSTG(got, s) || !impl.IsValidSTG(got) {
			t.Errorf("HideSignal %d: %v %v", sig, got, ok)
		}
	}
	for _, sig := range []int{-1, 3, 4, math.MaxInt, math.MinInt} {
		if got, ok := impl.HideSignal(mixed(), sig); ok || !isZeroSTG(got) {
			t.Errorf("HideSignal %d: %v %v", sig, got, ok)
		}
	}
	unused := labelled(inputs("s", impl.MaxSignals), up(7))
	if got, ok := impl.HideSignal(unused, 6); !ok || len(got.Signals) != 7 || got.Signals[6].Name != "s7" || got.Labels[0] != up(6) {
		t.Errorf("HideSignal of an unused signal: %v %v", got, ok)
	}
	one := labelled(inputs("s", 1), up(0))
	if got, ok := impl.HideSignal(one, 0); ok || !isZeroSTG(got) {
		t.Errorf("HideSignal of the only signal: %v %v", got, ok)
	}
}

// TestHiddenSignals checks that hiding takes the labels of one signal, and nothing else, from a sequence.
func TestHiddenSignals(t *testing.T) {
	l := []int{0, 2, 4, 5, 8, 1, 3}
	all, _ := impl.VisibleLabels(mixed(), l)
	for sig := range 3 {
		s, ok := impl.HideSignal(mixed(), sig)
		if !ok {
			t.Fatal("HideSignal")
		}
		rest, ok := impl.VisibleLabels(s, l)
		var want, got []string
		for _, x := range all {
			if x.Sig != sig {
				want = append(want, fmt.Sprint(mixed().Signals[x.Sig].Name, x.Up))
			}
		}
		for _, x := range rest {
			got = append(got, fmt.Sprint(s.Signals[x.Sig].Name, x.Up))
		}
		if !ok || !slices.Equal(got, want) {
			t.Errorf("labels after HideSignal %d: %v %v", sig, got, ok)
		}
	}
}

func TestUnionSTGs(t *testing.T) {
	b := labelled([]impl.Signal{signal("p", impl.Internal), signal("q", impl.Input)}, up(1), dummy(), down(0))
	want := impl.STG{
		Net: net(5, move([]int{3}, []int{0}), move([]int{0}, []int{1}), move([]int{1}, []int{2}), move([]int{2}, []int{3}),
			move([]int{4}, []int{4}), move([]int{4}, []int{4}), move([]int{4}, []int{4})),
		Signals: []impl.Signal{signal("a", impl.Input), signal("b", impl.Output), signal("p", impl.Internal), signal("q", impl.Input)},
		Labels:  []impl.Label{up(0), up(1), down(0), down(1), up(3), dummy(), down(2)},
		Start:   "00011",
	}
	if got, ok := impl.UnionSTGs(buffer(), b); !ok || !sameSTG(got, want) || !impl.IsValidSTG(got) {
		t.Errorf("UnionSTGs: %v %v", got, ok)
	}
	same := changed(func(s *impl.STG) { s.Signals[0].Name = "c" })
	if got, ok := impl.UnionSTGs(buffer(), same); ok || !isZeroSTG(got) {
		t.Errorf("UnionSTGs with a shared name: %v %v", got, ok)
	}
}

func TestUnionLimits(t *testing.T) {
	wide := func(places int, prefix string) impl.STG {
		return impl.STG{Net: net(places), Signals: inputs(prefix, 1), Start: strings.Repeat("1", places)}
	}
	long := func(count int, prefix string) impl.STG {
		return labelled(inputs(prefix, 1), slices.Repeat([]impl.Label{up(0)}, count)...)
	}
	many := func(count int, prefix string) impl.STG {
		return labelled(inputs(prefix, count))
	}
	for _, c := range []struct {
		name string
		make func(count int, prefix string) impl.STG
		most int
	}{
		{"places", wide, impl.MaxPlaces}, {"transitions", long, impl.MaxTransitions}, {"signals", many, impl.MaxSignals},
	} {
		a := c.make(c.most-2, "a")
		if got, ok := impl.UnionSTGs(a, c.make(2, "b")); !ok || !impl.IsValidSTG(got) {
			t.Errorf("UnionSTGs with all %s: %v %v", c.name, got, ok)
		}
		if got, ok := impl.UnionSTGs(a, c.make(3, "b")); ok || !isZeroSTG(got) {
			t.Errorf("UnionSTGs with too many %s: %v %v", c.name, got, ok)
		}
	}
}

func TestEqualSTG(t *testing.T) {
	for _, s := range append(validSTGs(), invalidSTGs()...) {
		if !impl.EqualSTG(s, stgWithSpare(s)) {
			t.Errorf("not equal to itself: %v", s)
		}
	}
	for i, change := range []func(s *impl.STG){
		func(s *impl.STG) { s.Net.Places = 5 },
		func(s *impl.STG) { s.Net.Transitions = s.Net.Transitions[:3] },
		func(s *impl.STG) { s.Net.Transitions = append(s.Net.Transitions, impl.Transition{}) },
		func(s *impl.STG) { s.Net.Transitions[3].Pre = []int{1} },
		func(s *impl.STG) { s.Net.Transitions[3].Pre = nil },
		func(s *impl.STG) { s.Net.Transitions[0].Post = []int{1} },
		func(s *impl.STG) { s.Net.Transitions[0].Post = []int{0, 1} },
		func(s *impl.STG) { s.Signals[1].Name = "c" },
		func(s *impl.STG) { s.Signals[1].Kind = impl.Internal },
		func(s *impl.STG) { s.Signals = s.Signals[:1] },
		func(s *impl.STG) { s.Labels[3].Sig = 0 },
		func(s *impl.STG) { s.Labels[3].Up = true },
		func(s *impl.STG) { s.Labels = s.Labels[:3] },
		func(s *impl.STG) { s.Start = "1001" },
		func(s *impl.STG) { s.Start = "" },
	} {
		if s := changed(change); impl.EqualSTG(s, buffer()) || impl.EqualSTG(buffer(), s) {
			t.Errorf("equal after change %d: %v", i, s)
		}
	}
	empty := impl.STG{Net: impl.Net{Transitions: []impl.Transition{}}, Signals: []impl.Signal{}, Labels: []impl.Label{}}
	if !impl.EqualSTG(empty, impl.STG{}) || !impl.EqualSTG(impl.STG{}, empty) {
		t.Error("a nil list is not equal to an empty one")
	}
	one, other := labelled(inputs("s", 1)), labelled(inputs("s", 1))
	one.Net = net(2, impl.Transition{Pre: []int{}, Post: nil})
	other.Net = net(2, impl.Transition{Pre: nil, Post: []int{}})
	if !impl.EqualSTG(one, other) {
		t.Error("a nil place list is not equal to an empty one")
	}
}

// TestInvalidSTGs checks that every result for an invalid graph is zero.
func TestInvalidSTGs(t *testing.T) {
	for _, s := range invalidSTGs() {
		for _, name := range []string{"", "a", "s0"} {
			if got, ok := impl.SignalIndex(s, name); got != 0 || ok {
				t.Errorf("SignalIndex of %v: %d %v", s, got, ok)
			}
		}
		if got, ok := impl.TransitionsOf(s, 0, true); ok || len(got) != 0 {
			t.Errorf("TransitionsOf of %v: %v %v", s, got, ok)
		}
		if got, ok := impl.TransitionName(s, 0); ok || got != "" {
			t.Errorf("TransitionName of %v: %q %v", s, got, ok)
		}
		for _, name := range []string{"", "a+", "b+", "b-", "s1+", "~"} {
			if got, ok := impl.TransitionByName(s, name); ok || got != 0 {
				t.Errorf("TransitionByName of %v: %d %v", s, got, ok)
			}
		}
		for _, l := range [][]int{nil, {0}} {
			if got, ok := impl.VisibleLabels(s, l); ok || len(got) != 0 {
				t.Errorf("VisibleLabels of %v: %v %v", s, got, ok)
			}
		}
		checkInvalidResults(t, s)
	}
}

func checkInvalidResults(t *testing.T, s impl.STG) {
	t.Helper()
	other := labelled(inputs("x", 1))
	for name, f := range map[string]func() (impl.STG, bool){
		"MirrorSTG":             func() (impl.STG, bool) { return impl.MirrorSTG(s) },
		"HideSignal":            func() (impl.STG, bool) { return impl.HideSignal(s, 0) },
		"UnionSTGs":             func() (impl.STG, bool) { return impl.UnionSTGs(s, other) },
		"UnionSTGs, the second": func() (impl.STG, bool) { return impl.UnionSTGs(other, s) },
	} {
		if got, ok := f(); ok || !isZeroSTG(got) {
			t.Errorf("%s of %v: %v %v", name, s, got, ok)
		}
	}
}

// checkSTGCalls checks promise 29 for chapter 2.
func checkSTGCalls(t *testing.T, s, other impl.STG, name string, i int, l []int) {
	t.Helper()
	defer mustNotPanic(t, "a function of chapter 2")
	s, other, l = stgWithSpare(s), stgWithSpare(other), withSpare(l)
	beforeS, beforeOther, beforeL := wholeSTG(s), wholeSTG(other), wholeInts(l)
	impl.IsValidSTG(s)
	impl.SignalIndex(s, name)
	impl.TransitionsOf(s, i, true)
	impl.TransitionsOf(s, i, false)
	impl.TransitionName(s, i)
	impl.TransitionByName(s, name)
	impl.MirrorSTG(s)
	impl.HideSignal(s, i)
	impl.UnionSTGs(s, other)
	impl.VisibleLabels(s, l)
	impl.EqualSTG(s, other)
	if !reflect.DeepEqual(wholeSTG(s), beforeS) || !reflect.DeepEqual(wholeSTG(other), beforeOther) || !reflect.DeepEqual(wholeInts(l), beforeL) {
		t.Errorf("an argument has changed: %v %v %v", s, other, l)
	}
}

func TestSTGsNoPanicNoChange(t *testing.T) {
	odd := []int{0, 1, 2, 7, 8, 9, 24, -1, -2, math.MaxInt, math.MinInt}
	all := append(validSTGs(), invalidSTGs()...)
	for _, s := range all {
		for _, other := range all {
			checkSTGCalls(t, s, other, "b", odd[len(other.Start)%len(odd)], nil)
		}
		for _, i := range odd {
			checkSTGCalls(t, s, s, "", i, odd)
			checkSTGCalls(t, s, s, "a+/1", i, []int{0, 0})
		}
		checkSTGCalls(t, s, s, strings.Repeat("\xff", 5000), 0, make([]int, 10000))
	}
	x := numbers(5)
	for range 300 {
		checkSTGCalls(t, someSTG(&x), someSTG(&x), "s1+/2", x.below(8)-1, upTo(x.below(12)))
	}
}

// TestSTGsNewMemory checks that no result shares memory with an argument, and no list of a result with another one.
func TestSTGsNewMemory(t *testing.T) {
	both := withSpare([]int{0})
	s := stgWithSpare(labelled(inputs("s", 2), up(0), dummy(), down(1)))
	for i := range s.Net.Transitions {
		s.Net.Transitions[i] = move(both, both)
	}
	other := stgWithSpare(labelled(inputs("x", 2), up(1), dummy()))
	beforeS, beforeOther := wholeSTG(s), wholeSTG(other)
	for name, f := range map[string]func() (impl.STG, bool){
		"MirrorSTG":  func() (impl.STG, bool) { return impl.MirrorSTG(s) },
		"HideSignal": func() (impl.STG, bool) { return impl.HideSignal(s, 1) },
		"UnionSTGs":  func() (impl.STG, bool) { return impl.UnionSTGs(s, other) },
	} {
		got, ok := f()
		if !ok || listsShare(got.Net) {
			t.Errorf("%s: two lists of a result share memory: %v %v", name, got, ok)
		}
		overwriteSTG(got)
		if !reflect.DeepEqual(wholeSTG(s), beforeS) || !reflect.DeepEqual(wholeSTG(other), beforeOther) {
			t.Fatalf("%s: a result shares memory with an argument", name)
		}
	}
	labels, ok := impl.VisibleLabels(s, []int{0, 1, 2})
	clear(labels[:cap(labels)])
	found, okToo := impl.TransitionsOf(s, 1, false)
	overwriteInts(found)
	if !ok || !okToo || !reflect.DeepEqual(wholeSTG(s), beforeS) {
		t.Error("a list shares memory with an argument")
	}
}
