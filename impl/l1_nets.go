package impl

const MaxPlaces = 30
const MaxTransitions = 24

const maxSequence = 200

type Transition struct {
	Pre  []int
	Post []int
}

type Net struct {
	Places      int
	Transitions []Transition
}

// marking is an array, not a string, so that a changed copy costs no memory
// and questions about sets of places become comparisons of two copies.
type marking [MaxPlaces]byte

func IsValidNet(n Net) bool {
	if n.Places < 1 || n.Places > MaxPlaces || len(n.Transitions) > MaxTransitions {
		return false
	}
	for _, t := range n.Transitions {
		if len(t.Pre) == 0 || !isIndexList(t.Pre, n.Places) || !isIndexList(t.Post, n.Places) {
			return false
		}
	}
	return true
}

func isIndexList(l []int, count int) bool {
	last := -1
	for _, i := range l {
		if i <= last || i >= count {
			return false
		}
		last = i
	}
	return true
}

func IsValidMarking(n Net, mark string) bool {
	if !IsValidNet(n) || len(mark) != n.Places {
		return false
	}
	for i := 0; i < len(mark); i++ {
		if mark[i] != '0' && mark[i] != '1' {
			return false
		}
	}
	return true
}

func (n Net) hasTransition(t int) bool {
	return t >= 0 && t < len(n.Transitions)
}

func readMarking(mark string) marking {
	var m marking
	copy(m[:], mark)
	return m
}

func writeMarking(n Net, m marking) string {
	return string(m[:n.Places])
}

func withPlaces(m marking, places []int) marking {
	for _, p := range places {
		m[p] = '1'
	}
	return m
}

func withoutPlaces(m marking, places []int) marking {
	for _, p := range places {
		m[p] = '0'
	}
	return m
}

// onlyPlaces starts from zeros in all places, because withoutPlaces writes '0'
// and would otherwise differ from a place that was never written.
func onlyPlaces(places []int) marking {
	var m marking
	for p := range m {
		m[p] = '0'
	}
	return withPlaces(m, places)
}

func isEnabled(m marking, t Transition) bool {
	return withPlaces(m, t.Pre) == m
}

func fireTransition(m marking, t Transition) (marking, bool) {
	if !isEnabled(m, t) {
		return m, false
	}
	rest := withoutPlaces(m, t.Pre)
	if withoutPlaces(rest, t.Post) != rest {
		return m, false
	}
	return withPlaces(rest, t.Post), true
}

func Enabled(n Net, mark string) ([]int, bool) {
	if !IsValidMarking(n, mark) {
		return nil, false
	}
	m := readMarking(mark)
	var enabled []int
	for i, t := range n.Transitions {
		if isEnabled(m, t) {
			enabled = append(enabled, i)
		}
	}
	return enabled, true
}

func Fire(n Net, mark string, t int) (string, bool) {
	if !IsValidMarking(n, mark) || !n.hasTransition(t) {
		return "", false
	}
	m, ok := fireTransition(readMarking(mark), n.Transitions[t])
	if !ok {
		return "", false
	}
	return writeMarking(n, m), true
}

func FireSequence(n Net, mark string, l []int) (string, int, bool) {
	if !IsValidMarking(n, mark) || len(l) > maxSequence {
		return "", 0, false
	}
	m := readMarking(mark)
	for fired, t := range l {
		if !n.hasTransition(t) {
			return writeMarking(n, m), fired, false
		}
		next, ok := fireTransition(m, n.Transitions[t])
		if !ok {
			return writeMarking(n, m), fired, false
		}
		m = next
	}
	return writeMarking(n, m), len(l), true
}

func AreIndependent(n Net, t int, u int) (bool, bool) {
	if !IsValidNet(n) || !n.hasTransition(t) || !n.hasTransition(u) {
		return false, false
	}
	first, second := n.Transitions[t], n.Transitions[u]
	touched := withPlaces(onlyPlaces(first.Pre), first.Post)
	return withoutPlaces(withoutPlaces(touched, second.Pre), second.Post) == touched, true
}

func IsFreeChoice(n Net) (bool, bool) {
	if !IsValidNet(n) {
		return false, false
	}
	for i, t := range n.Transitions {
		for _, u := range n.Transitions[:i] {
			if !haveFreeChoice(t, u) {
				return false, true
			}
		}
	}
	return true, true
}

func haveFreeChoice(t, u Transition) bool {
	first, second := onlyPlaces(t.Pre), onlyPlaces(u.Pre)
	return first == second || withoutPlaces(first, u.Pre) == first
}

func ReverseNet(n Net) (Net, bool) {
	if !IsValidNet(n) {
		return Net{}, false
	}
	reversed := Net{Places: n.Places, Transitions: make([]Transition, len(n.Transitions))}
	for i, t := range n.Transitions {
		reversed.Transitions[i] = Transition{Pre: copyInts(t.Post), Post: copyInts(t.Pre)}
	}
	if !IsValidNet(reversed) {
		return Net{}, false
	}
	return reversed, true
}

func UnionNets(a Net, b Net) (Net, bool) {
	if !IsValidNet(a) || !IsValidNet(b) {
		return Net{}, false
	}
	union := Net{Places: a.Places + b.Places}
	union.Transitions = append(movedTransitions(a, 0), movedTransitions(b, a.Places)...)
	if !IsValidNet(union) {
		return Net{}, false
	}
	return union, true
}

func movedTransitions(n Net, by int) []Transition {
	moved := make([]Transition, len(n.Transitions))
	for i, t := range n.Transitions {
		moved[i] = Transition{Pre: movedPlaces(t.Pre, by), Post: movedPlaces(t.Post, by)}
	}
	return moved
}

func movedPlaces(places []int, by int) []int {
	moved := copyInts(places)
	for i := range moved {
		moved[i] += by
	}
	return moved
}

func copyInts(l []int) []int {
	duplicate := make([]int, len(l))
	copy(duplicate, l)
	return duplicate
}
