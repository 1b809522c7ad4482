package tests

import (
	"math"
	"reflect"
	"slices"
	"strings"
	"testing"

	"loop.example/g00862/impl"
)

func move(pre, post []int) impl.Transition {
	return impl.Transition{Pre: pre, Post: post}
}

func net(places int, l ...impl.Transition) impl.Net {
	return impl.Net{Places: places, Transitions: l}
}

func ring() impl.Net {
	return net(2, move([]int{0}, []int{1}), move([]int{1}, []int{0}))
}

// repeated returns a net with count transitions that each move a token of place 0 to itself.
func repeated(places, count int) impl.Net {
	n := net(places)
	for range count {
		n.Transitions = append(n.Transitions, move([]int{0}, []int{0}))
	}
	return n
}

func upTo(n int) []int {
	l := make([]int, n)
	for i := range l {
		l[i] = i
	}
	return l
}

func TestIsValidNet(t *testing.T) {
	all := upTo(impl.MaxPlaces)
	for _, c := range []struct {
		name string
		n    impl.Net
		want bool
	}{
		{"ring", ring(), true},
		{"no transitions", net(1), true},
		{"empty list of transitions", impl.Net{Places: 1, Transitions: []impl.Transition{}}, true},
		{"zero", impl.Net{}, false},
		{"negative number of places", net(-1), false},
		{"all places", net(impl.MaxPlaces, move(all, all)), true},
		{"too many places", net(impl.MaxPlaces + 1), false},
		{"far too many places", net(math.MaxInt), false},
		{"all transitions", repeated(1, impl.MaxTransitions), true},
		{"too many transitions", repeated(1, impl.MaxTransitions+1), false},
		{"empty Post", net(1, move([]int{0}, nil)), true},
		{"empty Pre", net(1, move(nil, []int{0})), false},
		{"empty Pre, not nil", net(1, move([]int{}, []int{0})), false},
		{"empty Pre at the end", net(1, move([]int{0}, nil), move(nil, nil)), false},
		{"last place", net(3, move([]int{2}, []int{2})), true},
		{"Pre behind the last place", net(3, move([]int{3}, []int{2})), false},
		{"Post behind the last place", net(3, move([]int{2}, []int{3})), false},
		{"negative Pre", net(3, move([]int{-1}, []int{2})), false},
		{"negative Post", net(3, move([]int{0}, []int{-1, 2})), false},
		{"place twice in Pre", net(3, move([]int{1, 1}, nil)), false},
		{"place twice in Post", net(3, move([]int{1}, []int{1, 1})), false},
		{"decreasing Pre", net(3, move([]int{2, 1}, nil)), false},
		{"decreasing Post", net(3, move([]int{2}, []int{0, 2, 1})), false},
		{"increasing lists", net(3, move([]int{0, 2}, []int{0, 1, 2})), true},
	} {
		if got := impl.IsValidNet(c.n); got != c.want {
			t.Errorf("IsValidNet, %s: %v", c.name, got)
		}
	}
}

func TestIsValidMarking(t *testing.T) {
	full := net(impl.MaxPlaces)
	for _, c := range []struct {
		n    impl.Net
		mark string
		want bool
	}{
		{ring(), "00", true},
		{ring(), "01", true},
		{ring(), "11", true},
		{ring(), "", false},
		{ring(), "1", false},
		{ring(), "100", false},
		{ring(), "1 ", false},
		{ring(), "12", false},
		{ring(), "/0", false},
		{ring(), "0\x00", false},
		{ring(), "\u0661", false},
		{full, strings.Repeat("1", impl.MaxPlaces), true},
		{full, strings.Repeat("1", impl.MaxPlaces+1), false},
		{net(impl.MaxPlaces + 1), strings.Repeat("1", impl.MaxPlaces+1), false},
		{impl.Net{}, "", false},
		{net(1, move(nil, nil)), "1", false},
	} {
		if got := impl.IsValidMarking(c.n, c.mark); got != c.want {
			t.Errorf("IsValidMarking(%v, %q): %v", c.n, c.mark, got)
		}
	}
}

func TestEnabled(t *testing.T) {
	n := net(3, move([]int{0}, nil), move([]int{0, 2}, []int{1}), move([]int{2}, []int{2}), move([]int{1}, []int{0}))
	for mark, want := range map[string][]int{"000": nil, "100": {0}, "010": {3}, "001": {2}, "101": {0, 1, 2}, "111": {0, 1, 2, 3}} {
		if got, ok := impl.Enabled(n, mark); !ok || !slices.Equal(got, want) {
			t.Errorf("Enabled at %s: %v %v", mark, got, ok)
		}
	}
	if got, ok := impl.Enabled(net(1), "1"); !ok || len(got) != 0 {
		t.Errorf("Enabled without transitions: %v %v", got, ok)
	}
	most := repeated(1, impl.MaxTransitions)
	if got, ok := impl.Enabled(most, "1"); !ok || !slices.Equal(got, upTo(impl.MaxTransitions)) {
		t.Errorf("Enabled with all transitions: %v %v", got, ok)
	}
}

func TestFire(t *testing.T) {
	n := net(3, move([]int{0}, []int{1}), move([]int{0, 1}, []int{1, 2}), move([]int{2}, nil), move([]int{0, 2}, []int{0, 2}))
	for _, c := range []struct {
		name, mark string
		by         int
		want       string
	}{
		{"a token moves", "100", 0, "010"},
		{"other places keep theirs", "101", 0, "011"},
		{"not enabled", "001", 0, ""},
		{"Post is marked", "110", 0, ""},
		{"a place in both stays marked", "110", 1, "011"},
		{"Post outside Pre is marked", "111", 1, ""},
		{"only a part of Pre is marked", "100", 1, ""},
		{"empty Post", "011", 2, "010"},
		{"Pre is Post", "111", 3, "111"},
		{"Pre is Post, not enabled", "110", 3, ""},
	} {
		if got, ok := impl.Fire(n, c.mark, c.by); got != c.want || ok != (c.want != "") {
			t.Errorf("Fire, %s: %q %v", c.name, got, ok)
		}
	}
	half := impl.MaxPlaces / 2
	wide := net(impl.MaxPlaces, move(upTo(impl.MaxPlaces)[:half], upTo(impl.MaxPlaces)[half:]))
	from, to := strings.Repeat("1", half)+strings.Repeat("0", half), strings.Repeat("0", half)+strings.Repeat("1", half)
	if got, ok := impl.Fire(wide, from, 0); got != to || !ok {
		t.Errorf("Fire with all places: %q %v", got, ok)
	}
}

func TestFireSequence(t *testing.T) {
	n := net(3, move([]int{0}, []int{1}), move([]int{1}, []int{0}), move([]int{0}, []int{2}))
	long := make([]int, 201)
	for i := range long {
		long[i] = i % 2
	}
	for _, c := range []struct {
		name, mark string
		l          []int
		want       string
		fired      int
		ok         bool
	}{
		{"nothing", "100", nil, "100", 0, true},
		{"all fire", "100", []int{0, 1, 2}, "001", 3, true},
		{"the first cannot", "100", []int{1, 0}, "100", 0, false},
		{"stops on the way", "100", []int{0, 1, 1, 0}, "100", 2, false},
		{"the last cannot", "100", []int{0, 1, 2, 0}, "001", 3, false},
		{"stops at a marked Post", "110", []int{2, 1, 2}, "101", 2, false},
		{"no such transition", "100", []int{0, 3, 1}, "010", 1, false},
		{"negative transition", "100", []int{0, 1, -1}, "100", 2, false},
		{"longest", "100", long[:200], "100", 200, true},
		{"too long", "100", long, "", 0, false},
		{"longest stops", "010", append(slices.Clone(long[1:200]), 1), "100", 199, false},
		{"too long, cannot fire", "001", long, "", 0, false},
		{"no marking", "1000", []int{0}, "", 0, false},
		{"no marking, nothing to fire", "10x", nil, "", 0, false},
	} {
		if got, k, ok := impl.FireSequence(n, c.mark, c.l); got != c.want || k != c.fired || ok != c.ok {
			t.Errorf("FireSequence, %s: %q %d %v", c.name, got, k, ok)
		}
	}
}

func TestAreIndependent(t *testing.T) {
	n := net(6, move([]int{0}, []int{1}), move([]int{2}, []int{3}), move([]int{1}, []int{4}), move([]int{0}, []int{5}),
		move([]int{5}, []int{3}), move([]int{4}, nil))
	for _, c := range []struct {
		t, u int
		want bool
	}{
		{0, 1, true}, {0, 2, false}, {0, 3, false}, {1, 4, false}, {2, 5, false}, {0, 5, true}, {3, 4, false}, {1, 5, true},
		{0, 0, false}, {5, 5, false},
	} {
		for _, p := range [][2]int{{c.t, c.u}, {c.u, c.t}} {
			if got, ok := impl.AreIndependent(n, p[0], p[1]); got != c.want || !ok {
				t.Errorf("AreIndependent %v: %v %v", p, got, ok)
			}
		}
	}
}

func TestIsFreeChoice(t *testing.T) {
	for _, c := range []struct {
		name string
		n    impl.Net
		want bool
	}{
		{"no transitions", net(1), true},
		{"equal Pre", net(3, move([]int{0, 1}, []int{2}), move([]int{0, 1}, nil)), true},
		{"disjoint Pre", net(3, move([]int{0}, []int{2}), move([]int{1}, []int{2})), true},
		{"a smaller Pre", net(3, move([]int{0}, []int{2}), move([]int{0, 1}, []int{2})), false},
		{"a larger Pre", net(3, move([]int{0, 1}, []int{2}), move([]int{1}, []int{2})), false},
		{"overlapping Pre", net(3, move([]int{0, 1}, nil), move([]int{1, 2}, nil)), false},
		{"only the last two", net(4, move([]int{0}, nil), move([]int{1, 2}, nil), move([]int{2, 3}, nil)), false},
		{"the first and the last", net(4, move([]int{0, 1}, nil), move([]int{2}, nil), move([]int{1, 3}, nil)), false},
		{"Post plays no part", net(2, move([]int{0}, []int{0, 1}), move([]int{1}, []int{0, 1})), true},
	} {
		if got, ok := impl.IsFreeChoice(c.n); got != c.want || !ok {
			t.Errorf("IsFreeChoice, %s: %v %v", c.name, got, ok)
		}
	}
}

func TestReverseNet(t *testing.T) {
	n := net(4, move([]int{0, 2}, []int{1}), move([]int{1}, []int{1, 2, 3}))
	want := net(4, move([]int{1}, []int{0, 2}), move([]int{1, 2, 3}, []int{1}))
	if got, ok := impl.ReverseNet(n); !ok || !sameNet(got, want) {
		t.Errorf("ReverseNet: %v %v", got, ok)
	}
	if got, ok := impl.ReverseNet(net(3)); !ok || !sameNet(got, net(3)) {
		t.Errorf("ReverseNet without transitions: %v %v", got, ok)
	}
	for _, bad := range []impl.Net{net(1, move([]int{0}, nil)), net(2, move([]int{0}, []int{1}), move([]int{0}, []int{}))} {
		if got, ok := impl.ReverseNet(bad); ok || !isZeroNet(got) {
			t.Errorf("ReverseNet with an empty Post: %v %v", got, ok)
		}
	}
}

func TestUnionNets(t *testing.T) {
	a := net(3, move([]int{0, 2}, []int{1}))
	b := net(2, move([]int{1}, []int{0}), move([]int{0}, nil))
	want := net(5, move([]int{0, 2}, []int{1}), move([]int{4}, []int{3}), move([]int{3}, nil))
	if got, ok := impl.UnionNets(a, b); !ok || !sameNet(got, want) {
		t.Errorf("UnionNets: %v %v", got, ok)
	}
	if got, ok := impl.UnionNets(net(1), net(2)); !ok || !sameNet(got, net(3)) {
		t.Errorf("UnionNets without transitions: %v %v", got, ok)
	}
	half, rest := impl.MaxPlaces/2, impl.MaxPlaces-impl.MaxPlaces/2
	if got, ok := impl.UnionNets(net(half), net(rest)); !ok || !sameNet(got, net(impl.MaxPlaces)) {
		t.Errorf("UnionNets with all places: %v %v", got, ok)
	}
	if got, ok := impl.UnionNets(net(half), net(rest+1)); ok || !isZeroNet(got) {
		t.Errorf("UnionNets with too many places: %v %v", got, ok)
	}
	some := impl.MaxTransitions - 1
	if got, ok := impl.UnionNets(repeated(1, some), repeated(1, 1)); !ok || got.Places != 2 || len(got.Transitions) != impl.MaxTransitions {
		t.Errorf("UnionNets with all transitions: %v %v", got, ok)
	}
	if got, ok := impl.UnionNets(repeated(1, some), repeated(1, 2)); ok || !isZeroNet(got) {
		t.Errorf("UnionNets with too many transitions: %v %v", got, ok)
	}
}

// setOfPlaces returns the places whose bits are set in bits.
func setOfPlaces(bits int) []int {
	var l []int
	for p := 0; bits>>p > 0; p++ {
		if bits>>p&1 == 1 {
			l = append(l, p)
		}
	}
	return l
}

func markOf(places, bits int) string {
	mark := ""
	for p := range places {
		mark += string(rune('0' + bits>>p&1))
	}
	return mark
}

// bitsTransition is a transition with its places as bits, so that the tests have a firing rule of their own.
type bitsTransition struct{ pre, post int }

func (b bitsTransition) transition() impl.Transition {
	return move(setOfPlaces(b.pre), setOfPlaces(b.post))
}

func (b bitsTransition) fire(bits int) (int, bool) {
	if bits&b.pre != b.pre || bits&^b.pre&b.post != 0 {
		return 0, false
	}
	return bits&^b.pre | b.post, true
}

// TestAllPairs checks promise 1 on all nets with three places and two transitions.
func TestAllPairs(t *testing.T) {
	const places = 3
	var all []bitsTransition
	for pre := 1; pre < 1<<places; pre++ {
		for post := range 1 << places {
			all = append(all, bitsTransition{pre, post})
		}
	}
	for _, a := range all {
		for _, b := range all {
			checkPair(t, places, a, b)
		}
	}
}

// TestWidePairs checks promise 1 on nets with more places.
func TestWidePairs(t *testing.T) {
	x := numbers(1)
	few := func() int { return 1<<x.below(20) | 1<<x.below(20) }
	for range 400 {
		a, b := bitsTransition{few(), few()}, bitsTransition{few(), few()}
		n := net(20, a.transition(), b.transition())
		checkStructure(t, n, a, b)
		for range 20 {
			checkFiring(t, n, x.below(1<<20)|a.pre, a, b)
		}
	}
}

func checkPair(t *testing.T, places int, a, b bitsTransition) {
	n := net(places, a.transition(), b.transition())
	checkStructure(t, n, a, b)
	for bits := range 1 << places {
		checkFiring(t, n, bits, a, b)
	}
}

func checkStructure(t *testing.T, n impl.Net, a, b bitsTransition) {
	t.Helper()
	if got, ok := impl.AreIndependent(n, 0, 1); !ok || got != ((a.pre|a.post)&(b.pre|b.post) == 0) {
		t.Errorf("AreIndependent of %v: %v %v", n, got, ok)
	}
	if got, ok := impl.IsFreeChoice(n); !ok || got != (a.pre == b.pre || a.pre&b.pre == 0) {
		t.Errorf("IsFreeChoice of %v: %v %v", n, got, ok)
	}
	reversed, ok := impl.ReverseNet(n)
	if ok != (a.post != 0 && b.post != 0) {
		t.Errorf("ReverseNet of %v: %v", n, ok)
	}
	if back, _ := impl.ReverseNet(reversed); ok && !sameNet(back, n) {
		t.Errorf("ReverseNet of %v twice: %v", n, back)
	}
}

// checkFiring fires both transitions of n at one marking and compares with the tests' own rule.
func checkFiring(t *testing.T, n impl.Net, bits int, a, b bitsTransition) {
	t.Helper()
	mark := markOf(n.Places, bits)
	var enabled []int
	for i, x := range []bitsTransition{a, b} {
		if bits&x.pre == x.pre {
			enabled = append(enabled, i)
		}
		next, fires := x.fire(bits)
		want := ""
		if fires {
			want = markOf(n.Places, next)
		}
		if got, ok := impl.Fire(n, mark, i); got != want || ok != fires {
			t.Errorf("Fire of %v at %s by %d: %q %v", n, mark, i, got, ok)
		}
	}
	if got, ok := impl.Enabled(n, mark); !ok || !slices.Equal(got, enabled) {
		t.Errorf("Enabled of %v at %s: %v %v", n, mark, got, ok)
	}
	if independent, _ := impl.AreIndependent(n, 0, 1); independent {
		checkCommute(t, n, mark)
	}
}

// checkCommute checks that two independent transitions which can both fire at mark reach one marking in either order.
func checkCommute(t *testing.T, n impl.Net, mark string) {
	t.Helper()
	_, first := impl.Fire(n, mark, 0)
	_, second := impl.Fire(n, mark, 1)
	one, k, ok := impl.FireSequence(n, mark, []int{0, 1})
	other, l, okToo := impl.FireSequence(n, mark, []int{1, 0})
	if both := first && second; ok != both || okToo != both {
		t.Errorf("FireSequence of %v at %s: %v %v, but Fire: %v %v", n, mark, ok, okToo, first, second)
	}
	if ok && (one != other || k != 2 || l != 2) {
		t.Errorf("%v at %s does not commute: %s %s", n, mark, one, other)
	}
}

// TestUnionFires checks that each half of a union fires as the net that it came from.
func TestUnionFires(t *testing.T) {
	a := net(3, move([]int{0, 1}, []int{1, 2}), move([]int{2}, []int{0}))
	b := net(2, move([]int{1}, []int{0}), move([]int{0}, nil))
	union, ok := impl.UnionNets(a, b)
	if !ok {
		t.Fatal("UnionNets")
	}
	for bits := range 1 << 5 {
		left, right := markOf(3, bits), markOf(2, bits>>3)
		for i := range a.Transitions {
			alone, okAlone := impl.Fire(a, left, i)
			if got, ok := impl.Fire(union, left+right, i); ok != okAlone || ok && got != alone+right {
				t.Errorf("Fire of the union by %d: %q %v", i, got, ok)
			}
		}
		for i := range b.Transitions {
			alone, okAlone := impl.Fire(b, right, i)
			if got, ok := impl.Fire(union, left+right, i+2); ok != okAlone || ok && got != left+alone {
				t.Errorf("Fire of the union by %d: %q %v", i+2, got, ok)
			}
		}
		for i := range 2 {
			for k := 2; k < 4; k++ {
				if is, ok := impl.AreIndependent(union, i, k); !is || !ok {
					t.Errorf("transitions %d and %d of a union depend on each other", i, k)
				}
			}
		}
	}
}

func invalidNets() []impl.Net {
	return []impl.Net{
		{}, net(-1), net(math.MinInt), net(math.MaxInt), net(impl.MaxPlaces + 1), repeated(1, impl.MaxTransitions+1),
		{Transitions: ring().Transitions},
		net(2, move(nil, []int{1}), move([]int{1}, []int{0})),
		net(2, move([]int{0}, []int{1}), move([]int{0, 0}, nil)),
		net(2, move([]int{0}, []int{1}), move([]int{1, 0}, nil)),
		net(2, move([]int{0}, []int{1}), move([]int{0}, []int{1, 0})),
		net(2, move([]int{0}, []int{2}), move([]int{1}, []int{0})),
		net(2, move([]int{-1}, []int{1}), move([]int{1}, []int{0})),
		net(2, move([]int{0}, []int{math.MaxInt}), move([]int{1}, []int{0})),
		net(2, move([]int{math.MinInt, 1}, []int{1}), move([]int{1}, []int{0})),
		net(math.MaxInt, move([]int{0}, []int{math.MaxInt - 1}), move([]int{1}, []int{0})),
	}
}

// TestInvalidNets checks that every result for an invalid net is zero.
func TestInvalidNets(t *testing.T) {
	for _, n := range invalidNets() {
		if impl.IsValidNet(n) {
			t.Errorf("IsValidNet(%v)", n)
		}
		for _, mark := range []string{"", "1", "10", "11", strings.Repeat("1", impl.MaxPlaces+1)} {
			checkInvalidAt(t, n, mark, 0, 1)
		}
		if is, ok := impl.AreIndependent(n, 0, 1); is || ok {
			t.Errorf("AreIndependent of %v: %v %v", n, is, ok)
		}
		if is, ok := impl.IsFreeChoice(n); is || ok {
			t.Errorf("IsFreeChoice of %v: %v %v", n, is, ok)
		}
		if r, ok := impl.ReverseNet(n); ok || !isZeroNet(r) {
			t.Errorf("ReverseNet of %v: %v %v", n, r, ok)
		}
		for _, p := range [][2]impl.Net{{n, ring()}, {ring(), n}, {n, n}} {
			if u, ok := impl.UnionNets(p[0], p[1]); ok || !isZeroNet(u) {
				t.Errorf("UnionNets of %v: %v %v", p, u, ok)
			}
		}
	}
}

// checkInvalidAt checks the functions that take a marking, where n or mark is invalid.
func checkInvalidAt(t *testing.T, n impl.Net, mark string, l ...int) {
	t.Helper()
	if impl.IsValidMarking(n, mark) {
		t.Errorf("IsValidMarking(%v, %q)", n, mark)
	}
	if got, ok := impl.Enabled(n, mark); ok || len(got) != 0 {
		t.Errorf("Enabled(%v, %q): %v %v", n, mark, got, ok)
	}
	for _, i := range l {
		if got, ok := impl.Fire(n, mark, i); ok || got != "" {
			t.Errorf("Fire(%v, %q, %d): %q %v", n, mark, i, got, ok)
		}
	}
	for _, part := range [][]int{nil, l} {
		if got, k, ok := impl.FireSequence(n, mark, part); ok || got != "" || k != 0 {
			t.Errorf("FireSequence(%v, %q, %v): %q %d %v", n, mark, part, got, k, ok)
		}
	}
}

func TestInvalidMarkings(t *testing.T) {
	for _, mark := range []string{"", "1", "101", "1x", "x1", "1\n", "\xff0", "20"} {
		checkInvalidAt(t, ring(), mark, 0, 1)
	}
}

func TestInvalidTransitions(t *testing.T) {
	for _, n := range []impl.Net{ring(), net(2)} {
		for _, i := range []int{-1, len(n.Transitions), len(n.Transitions) + 1, math.MinInt, math.MaxInt} {
			if got, ok := impl.Fire(n, "10", i); ok || got != "" {
				t.Errorf("Fire by %d: %q %v", i, got, ok)
			}
			for _, k := range []int{0, i} {
				if is, ok := impl.AreIndependent(n, i, k); is || ok {
					t.Errorf("AreIndependent %d %d: %v %v", i, k, is, ok)
				}
				if is, ok := impl.AreIndependent(n, k, i); is || ok {
					t.Errorf("AreIndependent %d %d: %v %v", k, i, is, ok)
				}
			}
		}
	}
}

// callAll calls every function of chapter 1.
func callAll(n, other impl.Net, mark string, i, k int, l []int) {
	impl.IsValidNet(n)
	impl.IsValidMarking(n, mark)
	impl.Enabled(n, mark)
	impl.Fire(n, mark, i)
	impl.FireSequence(n, mark, l)
	impl.AreIndependent(n, i, k)
	impl.IsFreeChoice(n)
	impl.ReverseNet(n)
	impl.UnionNets(n, other)
}

// checkCalls calls every function and checks promise 29: none panics, and none changes its arguments or what lies behind them.
func checkCalls(t *testing.T, n, other impl.Net, mark string, i, k int, l []int) {
	t.Helper()
	defer mustNotPanic(t, "a function of chapter 1")
	n, other, l = netWithSpare(n), netWithSpare(other), withSpare(l)
	beforeN, beforeOther, beforeL := wholeNet(n), wholeNet(other), wholeInts(l)
	callAll(n, other, mark, i, k, l)
	if !reflect.DeepEqual(wholeNet(n), beforeN) || !reflect.DeepEqual(wholeNet(other), beforeOther) || !reflect.DeepEqual(wholeInts(l), beforeL) {
		t.Errorf("an argument has changed: %v %v %v", n, other, l)
	}
}

func TestNoPanicNoChange(t *testing.T) {
	odd := []int{0, 1, 2, -1, 29, 30, 31, math.MaxInt, math.MinInt}
	nets := append(invalidNets(), ring(), net(3), repeated(30, 24), net(2, move([]int{0}, nil)))
	marks := []string{"", "1", "10", "11", "\xff", "111", strings.Repeat("1", 30), strings.Repeat("1", 5000)}
	for _, n := range nets {
		for _, other := range nets {
			for _, mark := range marks {
				for at, i := range odd {
					checkCalls(t, n, other, mark, i, odd[len(odd)-1-at], odd)
				}
			}
		}
	}
	checkCalls(t, ring(), ring(), "10", 0, 1, make([]int, 100000))
	checkCalls(t, repeated(1, 100000), ring(), "1", 0, 1, nil)
	checkCalls(t, net(30, move(make([]int, 100000), make([]int, 100000))), ring(), "1", 0, 1, nil)
}

func TestNoPanicOnOddNets(t *testing.T) {
	x := numbers(2)
	list := func() []int {
		l := make([]int, x.below(4))
		for i := range l {
			l[i] = x.below(7) - 1
		}
		if x.below(4) > 0 {
			slices.Sort(l)
		}
		return l
	}
	odd := func() impl.Net {
		n := net(x.below(8) - 1)
		for range x.below(5) {
			n.Transitions = append(n.Transitions, move(list(), list()))
		}
		return n
	}
	for range 3000 {
		checkCalls(t, odd(), odd(), markOf(x.below(8), x.below(256)), x.below(7)-1, x.below(7)-1, list())
	}
}

// TestNewMemory checks that no result shares memory with an argument, and no list of a result with another one.
func TestNewMemory(t *testing.T) {
	both := withSpare([]int{0, 1})
	// Pre, Post and both transitions share one list here, which is no reason for a result to do so.
	n := netWithSpare(net(2, move(both, both), move(both, both)))
	n.Transitions[0] = move(both, both)
	n.Transitions[1] = move(both, both)
	before := wholeNet(n)
	for _, f := range []func() (impl.Net, bool){
		func() (impl.Net, bool) { return impl.ReverseNet(n) },
		func() (impl.Net, bool) { return impl.UnionNets(n, n) },
	} {
		got, ok := f()
		if !ok || listsShare(got) {
			t.Errorf("two lists of a result share memory: %v %v", got, ok)
		}
		overwriteNet(got)
		if !reflect.DeepEqual(wholeNet(n), before) {
			t.Fatal("a result shares memory with an argument")
		}
	}
	if l, ok := impl.Enabled(n, "11"); ok {
		overwriteInts(l)
	}
	if l, ok := impl.Enabled(n, "11"); !ok || !slices.Equal(l, []int{0, 1}) {
		t.Errorf("a result of Enabled is kept: %v %v", l, ok)
	}
}
