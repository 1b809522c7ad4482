package tests

import (
	"math"
	"reflect"
	"slices"
	"testing"

	"loop.example/g00862/impl"
)

const spare = 3
const guard = -77

// withSpare returns l with guard values behind its length, so that a call that reads, writes or hands out spare capacity shows.
func withSpare(l []int) []int {
	full := make([]int, len(l)+spare)
	copy(full, l)
	for i := len(l); i < len(full); i++ {
		full[i] = guard
	}
	return full[:len(l)]
}

func netWithSpare(n impl.Net) impl.Net {
	full := make([]impl.Transition, len(n.Transitions)+spare)
	for i, t := range n.Transitions {
		full[i] = impl.Transition{Pre: withSpare(t.Pre), Post: withSpare(t.Post)}
	}
	for i := len(n.Transitions); i < len(full); i++ {
		full[i] = impl.Transition{Pre: withSpare([]int{guard}), Post: withSpare([]int{guard})}
	}
	return impl.Net{Places: n.Places, Transitions: full[:len(n.Transitions)]}
}

// wholeInts and wholeNet copy a value with all of its capacity, for a comparison by reflect.DeepEqual later.
func wholeInts(l []int) []int {
	return slices.Clone(l[:cap(l)])
}

func wholeNet(n impl.Net) impl.Net {
	all := slices.Clone(n.Transitions[:cap(n.Transitions)])
	for i, t := range all {
		all[i] = impl.Transition{Pre: wholeInts(t.Pre), Post: wholeInts(t.Post)}
	}
	return impl.Net{Places: n.Places, Transitions: all}
}

func sameNet(a, b impl.Net) bool {
	return a.Places == b.Places && slices.EqualFunc(a.Transitions, b.Transitions, func(t, u impl.Transition) bool {
		return slices.Equal(t.Pre, u.Pre) && slices.Equal(t.Post, u.Post)
	})
}

func isZeroNet(n impl.Net) bool {
	return sameNet(n, impl.Net{})
}

// overwriteNet writes to everything that n reaches, its capacity included.
func overwriteNet(n impl.Net) {
	for i, t := range n.Transitions {
		overwriteInts(t.Pre)
		overwriteInts(t.Post)
		n.Transitions[i] = impl.Transition{}
	}
	clear(n.Transitions[:cap(n.Transitions)])
}

func overwriteInts(l []int) {
	for i := range l[:cap(l)] {
		l[:cap(l)][i] = math.MinInt
	}
}

// listsShare reports whether writing to one list of n, its capacity included, changes another one.
func listsShare(n impl.Net) bool {
	var lists [][]int
	for _, t := range n.Transitions {
		lists = append(lists, t.Pre, t.Post)
	}
	for i, l := range lists {
		before := make([][]int, len(lists))
		for k := range lists {
			before[k] = wholeInts(lists[k])
		}
		overwriteInts(l)
		for k := range lists {
			if k != i && !reflect.DeepEqual(before[k], wholeInts(lists[k])) {
				return true
			}
		}
		copy(l[:cap(l)], before[i])
	}
	return false
}

func mustNotPanic(t *testing.T, what string) {
	if r := recover(); r != nil {
		t.Errorf("%s panics: %v", what, r)
	}
}

// numbers is a fixed sequence that looks random.
type numbers uint64

func (x *numbers) below(n int) int {
	*x = *x*6364136223846793005 + 1442695040888963407
	return int(uint64(*x) >> 33 % uint64(n))
}
