package tests

import (
	"fmt"
	"math"
	"reflect"
	"regexp"
	"slices"
	"strings"
	"testing"

	"loop.example/g00862/impl"
)

func lines(l ...string) string {
	return strings.Join(l, "\n") + "\n"
}

const bufferText = "in a\nout b\nstart 0001\na+ 3 > 0\nb+ 0 > 1\na- 1 > 2\nb- 2 > 3\n"
const bufferArcs = "in a\nout b\na+ b+\nb+ a-\na- b-\nb- a+ *\n"

func allKinds() []impl.Signal {
	return []impl.Signal{signal("a", impl.Input), signal("b1", impl.Input), signal("c", impl.Output), signal("in", impl.Internal), signal("start", impl.Internal)}
}

// crossing has shared labels, dummies, an empty Post and places of two digits.
func crossing() impl.STG {
	return impl.STG{
		Net: net(12, move([]int{0, 9, 10}, []int{11}), move([]int{11}, nil), move([]int{1, 2}, []int{1, 2, 3}),
			move([]int{3}, []int{10}), move([]int{4}, []int{0, 11}), move([]int{5}, []int{5})),
		Signals: allKinds(),
		Labels:  []impl.Label{up(0), dummy(), up(0), down(4), dummy(), up(3)},
		Start:   "100000000011",
	}
}

const crossingText = "in a b1\nout c\ninner in start\nstart 100000000011\n" +
	"a+ 0 9 10 > 11\n~ 11 >\na+ 1 2 > 1 2 3\nstart- 3 > 10\n~ 4 > 0 11\nin+ 5 > 5\n"

// withKinds returns a graph whose signals have the given kinds, in order.
func withKinds(kinds ...int) impl.STG {
	signals := inputs("s", len(kinds))
	for i, kind := range kinds {
		signals[i].Kind = kind
	}
	return labelled(signals, up(0))
}

func TestFormatSTG(t *testing.T) {
	tail := "start 1\ns0+ 0 > 0\n"
	for _, c := range []struct {
		s    impl.STG
		want string
	}{
		{buffer(), bufferText},
		{crossing(), crossingText},
		{labelled(inputs("s", 1)), "in s0\nstart 1\n"},
		{impl.STG{Net: net(3), Signals: inputs("s", 1), Start: "010"}, "in s0\nstart 010\n"},
		{withKinds(impl.Output), "out s0\n" + tail},
		{withKinds(impl.Internal), "inner s0\n" + tail},
		{withKinds(impl.Input, impl.Internal), "in s0\ninner s1\n" + tail},
		{withKinds(impl.Output, impl.Internal), "out s0\ninner s1\n" + tail},
		{withKinds(impl.Input, impl.Output, impl.Output, impl.Internal), "in s0\nout s1 s2\ninner s3\n" + tail},
		{withKinds(impl.Output, impl.Input), ""},
		{withKinds(impl.Internal, impl.Output), ""},
		{withKinds(impl.Internal, impl.Input), ""},
		{withKinds(impl.Input, impl.Output, impl.Input), ""},
		{withKinds(impl.Input, impl.Internal, impl.Output), ""},
	} {
		if got, ok := impl.FormatSTG(c.s); got != c.want || ok != (c.want != "") {
			t.Errorf("FormatSTG of %v: %q %v", c.s, got, ok)
		}
	}
}

// ofLength returns a graph whose text has the given length, 3944 to 4013 bytes.
func ofLength(t *testing.T, want int) impl.STG {
	t.Helper()
	all := upTo(impl.MaxPlaces)
	s := impl.STG{Net: net(impl.MaxPlaces), Signals: inputs("s", 1), Start: strings.Repeat("1", impl.MaxPlaces)}
	for range impl.MaxTransitions {
		s.Net.Transitions = append(s.Net.Transitions, move(slices.Clone(all), slices.Clone(all)))
		s.Labels = append(s.Labels, up(0))
	}
	for i := 0; ; i++ {
		text, ok := impl.FormatSTG(s)
		if !ok || len(text) < want {
			t.Fatalf("no graph with a text of %d bytes: %d %v", want, len(text), ok)
		}
		if len(text) == want {
			return s
		}
		post := &s.Net.Transitions[i%impl.MaxTransitions].Post
		if (len(text)-want)%3 == 0 {
			*post = (*post)[:len(*post)-1]
		} else {
			*post = slices.Delete(*post, 1, 2)
		}
	}
}

func TestTextLimits(t *testing.T) {
	longest := ofLength(t, impl.MaxText)
	text, _ := impl.FormatSTG(longest)
	if got, code, line, ok := impl.ParseSTG(text); !ok || code != 0 || line != 0 || !sameSTG(got, longest) {
		t.Errorf("ParseSTG of %d bytes: %d %d %v", len(text), code, line, ok)
	}
	text, ok := impl.FormatSTG(ofLength(t, impl.MaxText+1))
	if !ok || len(text) != impl.MaxText+1 {
		t.Errorf("FormatSTG of %d bytes: %v", len(text), ok)
	}
	checkFault(t, text, 1, 0)
	padded := "in " + strings.Repeat("a", impl.MaxText-4) + "\n"
	checkFault(t, padded, 3, 0)
	checkFault(t, "a"+padded, 1, 0)
	s := ofLength(t, 4010)
	if text, ok := impl.FormatSTG(s); !ok || len(text) != 4010 {
		t.Errorf("FormatSTG of a long graph: %d %v", len(text), ok)
	}
}

func checkFault(t *testing.T, text string, code, line int) {
	t.Helper()
	if s, gotCode, gotLine, ok := impl.ParseSTG(text); gotCode != code || gotLine != line || ok || !isZeroSTG(s) {
		t.Errorf("ParseSTG of %q: %d %d %v %v, not %d %d", text, gotCode, gotLine, ok, s, code, line)
	}
}

func TestUnreadableTexts(t *testing.T) {
	for _, text := range []string{
		"", "a", " ", "in a", bufferText[:len(bufferText)-1], bufferText + " ", bufferText + "x", bufferText + "\x00", bufferText[:len(bufferText)-1] + "\r",
		strings.Repeat("x", impl.MaxText+1), strings.Repeat("\n", impl.MaxText+1), bufferText + strings.Repeat("\n", impl.MaxText),
		"b\nb\nb", "in\nx",
	} {
		checkFault(t, text, 1, 0)
	}
}

func TestMalformedSignalLines(t *testing.T) {
	for _, c := range []struct {
		line  int
		lines []string
	}{
		{1, []string{""}},
		{1, []string{"", "in a", "start 1"}},
		{1, []string{"in", "start 1"}},
		{1, []string{"out"}},
		{1, []string{"inner"}},
		{2, []string{"in a", "out"}},
		{3, []string{"in a", "out b", "inner"}},
		{2, []string{"in a", "in b", "start 1"}},
		{2, []string{"out a", "in b", "start 1"}},
		{2, []string{"out a", "out b", "start 1"}},
		{2, []string{"inner a", "in b", "start 1"}},
		{2, []string{"inner a", "out b", "start 1"}},
		{2, []string{"inner a", "inner b", "start 1"}},
		{3, []string{"in a", "inner b", "out c", "start 1"}},
		{3, []string{"in a", "out b", "in c", "start 1"}},
		{1, []string{" in a", "start 1"}},
		{1, []string{"ina", "start 1"}},
		{1, []string{"i a", "start 1"}},
		{1, []string{"In a", "start 1"}},
		{1, []string{"in\ta", "start 1"}},
		{1, []string{"input a", "start 1"}},
		{1, []string{"internal a", "start 1"}},
		{2, []string{"in a", " out b", "start 1"}},
		{2, []string{"in a", "", "start 1"}},
		{3, []string{"in a", "start 1", "out b"}},
		{2, []string{"start 1", "in a"}},
		{3, []string{"in ", "out a", "out"}},
	} {
		checkFault(t, lines(c.lines...), 2, c.line)
	}
}

func TestMalformedStartLines(t *testing.T) {
	for _, line := range []string{
		"start", "start  ", "start 1 ", "start 1 0", "start  1", " start 1", "start\t1", "Start 1", "star 1", "starts 1", "1", "start1", "a+ 0 > 0", "~ 0 > 0", "", " ",
	} {
		checkFault(t, lines("in a", line), 2, 2)
		checkFault(t, lines("in a", line, "a+ 0 > 0"), 2, 2)
		checkFault(t, lines("in a", "out", "start"), 2, 2)
		checkFault(t, lines(line, "in a", "start 1"), 2, 1)
	}
}

func TestMalformedTransitionLines(t *testing.T) {
	for _, line := range []string{
		"", " ", "a", "a+", "a+ 0", "a+ 0 0", "a+ 0 > 0 > 0", "a+ 0 > >", "a+ > > 0", "a+ 0 0 >>", "> 0", ">", "> 0 > 0", "0 > 0",
		"b+ 0 > 0", "a 0 > 0", "aa+ 0 > 0", "a+/1 0 > 0", "a+/ 0 > 0", "~/1 0 > 0", "~+ 0 > 0", "~~ 0 > 0", "a~ 0 > 0", "a* 0 > 0", "a++ 0 > 0", "a+- 0 > 0", "A+ 0 > 0",
		"+ 0 > 0", "- 0 > 0", "+a 0 > 0", " a+ 0 > 0", "a+  0 > 0", "a+ 0  > 0", "a+ 0 >  0", "a+ 0 > 0 ", "a+ 0 > ", "a+\t0 > 0", "a+ 0 > 0\r", "a+ 0 > 0\x00",
		"a+ 00 > 0", "a+ 01 > 0", "a+ 0 > 00", "a+ 0 > 01", "a+ 100 > 0", "a+ 0 > 100", "a+ 000 > 0", "a+ -1 > 0", "a+ 0 > -1", "a+ -0 > 0", "a+ +0 > 0", "a+ 0 > +1",
		"a+ 0x0 > 0", "a+ 0 > 1_0", "a+ 0 > a", "a+ 0> 0", "a+ 0 >0", "a+0 > 0", "a+ 0 > 99999999999999999999", "a+ \u0660 > 0", "a+ 0 > 1.", "a+ 0,1 > 0",
		"start 1", "in b", "out b", "a+ 0 < 0", "a+ 0 - 0",
	} {
		checkFault(t, lines("in a", "start 1", line), 2, 3)
		checkFault(t, lines("in a", "start 1", "a+ 0 > 0", line, "a- 0 > 0"), 2, 4)
		checkFault(t, lines("in a", "start 1", "a+ 7 > 7", line, "x"), 2, 4)
		checkFault(t, lines("in ", "start x", "~ 0 > 0", line), 2, 4)
	}
}

// TestRefusedGraphs checks that a text whose lines are well-formed, but which no graph has, gets code 3.
func TestRefusedGraphs(t *testing.T) {
	many := slices.Repeat([]string{"a+ 0 > 0"}, impl.MaxTransitions)
	for _, l := range [][]string{
		{"in a"}, {"out a"}, {"inner a"}, {"in a", "out b"}, {"in a", "inner b"}, {"in a", "out b", "inner c"},
		{"in "}, {"in  "}, {"in  ", "out  a  "}, {"start 1"}, {"start "}, {"start 1", "~ 0 > 0"},
		{"in ", "start 1"}, {"in a ", "start 1"}, {"in  a", "start 1"}, {"in a  b", "start 1"}, {"out a ", "start 1"}, {"inner ", "start 1"},
		{"in a a", "start 1"}, {"in a", "out a", "start 1"}, {"in a", "inner a", "start 1"}, {"in A", "start 1"}, {"in abcdefg", "start 1"}, {"in 1", "start 1"},
		{"in a+", "start 1", "a++ 0 > 0"}, {"in +", "start 1", "++ 0 > 0"}, {"in ~", "start 1", "~+ 0 > 0"}, {"in >", "start 1", ">- 0 > 0"}, {"in a\r", "start 1"},
		{"in a b c d e f g h i", "start 1"}, {"in a b c d e f g h", "out i", "start 1"},
		{"in a", "start "}, {"in a", "start 2"}, {"in a", "start 01x"}, {"in a", "start >"}, {"in a", "start 1\r"}, {"in a", "start \xff"},
		{"in a", "start " + strings.Repeat("0", impl.MaxPlaces+1)}, {"in a", "start " + strings.Repeat("0", 1000)},
		{"in a", "start 1", "a+ > 0"}, {"in a", "start 1", "a+ >"}, {"in a", "start 1", "~ >"}, {"in a", "start 11", "a+ > 0 1"},
		{"in a", "start 1", "a+ 1 > 0"}, {"in a", "start 1", "a+ 0 > 1"}, {"in a", "start 1", "a+ 99 > 0"}, {"in a", "start 1", "a+ 0 > 99"}, {"in a", "start 1", "a+ 10 > 10"},
		{"in a", "start 11", "a+ 0 0 > 1"}, {"in a", "start 11", "a+ 1 0 > 1"}, {"in a", "start 11", "a+ 0 > 1 1"}, {"in a", "start 11", "a+ 0 > 1 0"},
		append([]string{"in a", "start 1", "a+ 0 > 0"}, many...),
		{"in a", "start 1", "a+ 1 > 0", "a+ 0 > 0"},
	} {
		checkFault(t, lines(l...), 3, 0)
	}
	text := lines(append([]string{"in a", "start 1"}, many...)...)
	if s, code, line, ok := impl.ParseSTG(text); !ok || code != 0 || line != 0 || len(s.Labels) != impl.MaxTransitions {
		t.Errorf("ParseSTG with all transitions: %d %d %v", code, line, ok)
	}
	text = lines("in a b c d e f g h", "start "+strings.Repeat("0", impl.MaxPlaces), "h- 29 > 0 29")
	if s, code, line, ok := impl.ParseSTG(text); !ok || code != 0 || line != 0 || s.Net.Places != impl.MaxPlaces || len(s.Signals) != impl.MaxSignals {
		t.Errorf("ParseSTG with all signals and places: %d %d %v", code, line, ok)
	}
}

func checkParsed(t *testing.T, s impl.STG) {
	t.Helper()
	text, ok := impl.FormatSTG(s)
	if !ok {
		t.Errorf("FormatSTG of %v", s)
	}
	if got, code, line, ok := impl.ParseSTG(text); !ok || code != 0 || line != 0 || !sameSTG(got, s) {
		t.Errorf("ParseSTG of %q: %v %d %d %v", text, got, code, line, ok)
	}
}

// grouped returns s with its signals sorted by kind.
func grouped(s impl.STG) impl.STG {
	s.Signals = slices.Clone(s.Signals)
	slices.SortStableFunc(s.Signals, func(a, b impl.Signal) int { return a.Kind - b.Kind })
	return s
}

func TestParseFormatted(t *testing.T) {
	checkParsed(t, crossing())
	for _, s := range validSTGs() {
		checkParsed(t, grouped(s))
	}
	x := numbers(6)
	for range 500 {
		s := someSTG(&x)
		inOrder := sameSTG(grouped(s), s)
		if text, ok := impl.FormatSTG(s); ok != inOrder || ok != (text != "") {
			t.Errorf("FormatSTG of %v: %v", s.Signals, ok)
		}
		checkParsed(t, grouped(s))
	}
}

var signalLine = regexp.MustCompile(`^(in|out|inner)( [^ ]*)+$`)
var startLine = regexp.MustCompile(`^start [^ ]*$`)
var signedName = regexp.MustCompile(`(?s)^(.+)[+-]$`)
var transitionLine = regexp.MustCompile(`^([^ ]*)((?: (?:0|[1-9][0-9]?))*) >((?: (?:0|[1-9][0-9]?))*)$`)

// ruleFault returns the line of the first malformed line by the document's rules, or 0.
func ruleFault(text string) int {
	order := []string{"in", "out", "inner"}
	var declared []string
	started := false
	for i, line := range strings.Split(strings.TrimSuffix(text, "\n"), "\n") {
		words := strings.Split(line, " ")
		k := slices.Index(order, words[0])
		switch {
		case !started && k >= 0 && signalLine.MatchString(line):
			order = order[k+1:]
			declared = append(declared, words[1:]...)
		case !started && startLine.MatchString(line):
			started = true
		case started && transitionLine.MatchString(line) && isRuleLabel(words[0], declared):
		default:
			return i + 1
		}
	}
	return 0
}

func isRuleLabel(label string, declared []string) bool {
	m := signedName.FindStringSubmatch(label)
	return label == "~" || m != nil && slices.Contains(declared, m[1])
}

// checkText compares what ParseSTG says about any text with the document's rules.
func checkText(t *testing.T, text string) bool {
	t.Helper()
	s, code, line, ok := impl.ParseSTG(text)
	if ok {
		if formatted, okToo := impl.FormatSTG(s); !okToo || formatted != text || code != 0 || line != 0 || len(text) > impl.MaxText || !impl.IsValidSTG(s) {
			t.Errorf("ParseSTG of %q: %v %d %d", text, s, code, line)
		}
		return true
	}
	want, wantLine := 3, 0
	if text == "" || len(text) > impl.MaxText || text[len(text)-1] != '\n' {
		want = 1
	} else if at := ruleFault(text); at > 0 {
		want, wantLine = 2, at
	}
	if code != want || line != wantLine || !isZeroSTG(s) {
		t.Errorf("ParseSTG of %q: %d %d %v, not %d %d", text, code, line, s, want, wantLine)
	}
	return false
}

// oneByteOff calls check with every text that differs from text in one byte that is replaced, left out or put in.
func oneByteOff(text string, check func(other string)) {
	const replacements = "\n abc0129+->~*/in\x00\xff"
	for i := 0; i <= len(text); i++ {
		for _, b := range []byte(replacements) {
			check(text[:i] + string([]byte{b}) + text[i:])
			if i < len(text) && text[i] != b {
				check(text[:i] + string([]byte{b}) + text[i+1:])
			}
		}
		if i < len(text) {
			check(text[:i] + text[i+1:])
		}
	}
}

// TestOneByteOff checks promise 3: a text next to a formatted one is refused with the code and line of the rules, or is that of another graph.
func TestOneByteOff(t *testing.T) {
	accepted, refused := 0, 0
	for _, text := range []string{bufferText, crossingText, "inner a\nstart 1\n", "in a\ninner a1\nstart 11\na1- 0 1 >\n~ 1 > 0\n"} {
		oneByteOff(text, func(other string) {
			if checkText(t, other) {
				accepted++
			} else {
				refused++
			}
		})
	}
	if accepted < 100 || refused < 1000 {
		t.Errorf("%d texts accepted, %d refused", accepted, refused)
	}
}

// shuffled returns text after a few changes to its words and lines.
func shuffled(x *numbers, text string) string {
	for range 1 + x.below(3) {
		sep := []string{"\n", " ", "", "+", "\n"}[x.below(5)]
		parts := strings.Split(text, sep)
		if len(parts) == 0 {
			parts = []string{""}
		}
		i, k := x.below(len(parts)), x.below(len(parts))
		switch x.below(4) {
		case 0:
			parts[i], parts[k] = parts[k], parts[i]
		case 1:
			parts = slices.Delete(parts, i, i+1)
		case 2:
			parts = slices.Insert(parts, i, parts[k])
		default:
			parts[i] = []string{"", "in", "out z", "start", "start 11", "~", "0", ">", "100", "09", "a+", "*", "b+ a-"}[x.below(13)]
		}
		text = strings.Join(parts, sep)
	}
	return text
}

func TestShuffledTexts(t *testing.T) {
	x := numbers(7)
	accepted := 0
	for range 20000 {
		text := []string{bufferText, crossingText, "in a\nstart 11\na+ 0 > 1\n"}[x.below(3)]
		if checkText(t, shuffled(&x, text)) {
			accepted++
		}
	}
	if accepted < 500 {
		t.Errorf("only %d texts accepted", accepted)
	}
}

func arcs(s impl.STG, pairs ...[2]int) impl.STG {
	s.Net = impl.Net{Places: len(pairs), Transitions: make([]impl.Transition, len(s.Labels))}
	for p, pair := range pairs {
		s.Net.Transitions[pair[0]].Post = append(s.Net.Transitions[pair[0]].Post, p)
		s.Net.Transitions[pair[1]].Pre = append(s.Net.Transitions[pair[1]].Pre, p)
	}
	return s
}

// ranked is a marked graph with shared labels, dummies, a loop, two places side by side and an empty Post.
func ranked() impl.STG {
	s := impl.STG{Signals: allKinds(), Start: "01100011"}
	s.Labels = []impl.Label{up(0), up(3), dummy(), up(0), down(4), dummy()}
	return arcs(s, [2]int{0, 1}, [2]int{0, 1}, [2]int{2, 3}, [2]int{3, 0}, [2]int{1, 4}, [2]int{4, 4}, [2]int{3, 2}, [2]int{2, 5})
}

func TestIsMarkedGraph(t *testing.T) {
	plain := labelled(inputs("s", 1), up(0), up(0))
	with := func(places int, first, second impl.Transition) impl.STG {
		s := plain
		s.Net = net(places, first, second)
		s.Start = strings.Repeat("1", places)
		return s
	}
	for _, c := range []struct {
		name string
		s    impl.STG
		want bool
	}{
		{"buffer", buffer(), true},
		{"ring", with(2, move([]int{0}, []int{1}), move([]int{1}, []int{0})), true},
		{"loops", with(2, move([]int{0}, []int{0}), move([]int{1}, []int{1})), true},
		{"empty Post", with(2, move([]int{0}, nil), move([]int{1}, []int{0, 1})), true},
		{"two places side by side", with(3, move([]int{0, 1}, []int{2}), move([]int{2}, []int{0, 1})), true},
		{"no producer", with(2, move([]int{0}, []int{1}), move([]int{1}, nil)), false},
		{"no consumer", with(3, move([]int{0}, []int{1, 2}), move([]int{1}, []int{0})), false},
		{"two producers", with(2, move([]int{0}, []int{1}), move([]int{1}, []int{0, 1})), false},
		{"two consumers", with(2, move([]int{0, 1}, []int{1}), move([]int{1}, []int{0})), false},
		{"unused place", with(3, move([]int{0}, []int{1}), move([]int{1}, []int{0})), false},
		{"unused first place", with(3, move([]int{1}, []int{2}), move([]int{2}, []int{1})), false},
		{"no transitions", labelled(inputs("s", 1)), false},
		{"ungrouped signals", labelled([]impl.Signal{signal("b", impl.Output), signal("a", impl.Input)}, up(0)), true},
	} {
		if got, ok := impl.IsMarkedGraph(c.s); got != c.want || !ok {
			t.Errorf("IsMarkedGraph, %s: %v %v", c.name, got, ok)
		}
	}
}

func TestFormatArcs(t *testing.T) {
	ungrouped := labelled([]impl.Signal{signal("b", impl.Output), signal("a", impl.Input)}, up(0))
	for _, c := range []struct {
		name string
		s    impl.STG
		want string
	}{
		{"buffer", buffer(), bufferArcs},
		{"shared labels", arcs(impl.STG{Signals: allKinds(), Labels: []impl.Label{up(0), dummy(), up(0), dummy(), down(4)}, Start: "010011"},
			[2]int{0, 2}, [2]int{2, 1}, [2]int{3, 0}, [2]int{1, 3}, [2]int{3, 4}, [2]int{4, 4}),
			"in a b1\nout c\ninner in start\na+/1 a+/2\na+/2 ~/1 *\n~/2 a+/1\n~/1 ~/2\n~/2 start- *\nstart- start- *\n"},
		{"one dummy", labelled(inputs("s", 1), dummy()), "in s0\n~ ~ *\n"},
		{"no transitions", labelled(inputs("s", 1)), ""},
		{"not a marked graph", crossing(), ""},
		{"two consumers", labelled(inputs("s", 1), up(0), up(0)), ""},
		{"ungrouped signals", ungrouped, ""},
	} {
		if got, ok := impl.FormatArcs(c.s); got != c.want || ok != (c.want != "") {
			t.Errorf("FormatArcs, %s: %q %v", c.name, got, ok)
		}
	}
}

// inOrderOfMention returns s with its transitions numbered by the first arc that mentions them.
func inOrderOfMention(s impl.STG) impl.STG {
	var order []int
	for p := range s.Net.Places {
		for _, isProducer := range []bool{true, false} {
			for i, t := range s.Net.Transitions {
				places := t.Pre
				if isProducer {
					places = t.Post
				}
				if slices.Contains(places, p) && !slices.Contains(order, i) {
					order = append(order, i)
				}
			}
		}
	}
	r := s
	r.Net.Transitions, r.Labels = nil, nil
	for _, i := range order {
		r.Net.Transitions = append(r.Net.Transitions, s.Net.Transitions[i])
		r.Labels = append(r.Labels, s.Labels[i])
	}
	return r
}

// someMarkedGraph returns a marked graph with grouped signals.
func someMarkedGraph(x *numbers) impl.STG {
	s := grouped(someSTG(x))
	s.Labels = append(s.Labels, up(0))
	var pairs [][2]int
	for t := range s.Labels {
		pairs = append(pairs, [2]int{x.below(len(s.Labels)), t})
	}
	for range x.below(4) {
		pairs = append(pairs, [2]int{x.below(len(s.Labels)), x.below(len(s.Labels))})
	}
	for i := range pairs {
		k := x.below(len(pairs))
		pairs[i], pairs[k] = pairs[k], pairs[i]
	}
	s.Start = markOf(len(pairs), x.below(1<<16))
	return arcs(s, pairs...)
}

// TestParseArcs checks promise 3 for arcs: a graph is read back with its transitions in the order of mention, if the text is that of such a graph.
func TestParseArcs(t *testing.T) {
	x := numbers(8)
	parsed, refused, reordered := 0, 0, 0
	for range 2000 {
		s := someMarkedGraph(&x)
		text, ok := impl.FormatArcs(s)
		if !ok || !impl.IsValidSTG(s) {
			t.Fatalf("FormatArcs of %v", s)
		}
		want := inOrderOfMention(s)
		wantText, _ := impl.FormatArcs(want)
		got, ok := impl.ParseArcs(text)
		if ok != (wantText == text) || ok && !sameSTG(got, want) || !ok && !isZeroSTG(got) {
			t.Errorf("ParseArcs of %q: %v %v", text, got, ok)
		}
		if again, ok := impl.ParseArcs(wantText); !ok || !sameSTG(again, want) {
			t.Errorf("ParseArcs of %q: %v %v", wantText, again, ok)
		}
		if !ok {
			refused++
		} else if parsed++; !sameSTG(want, s) {
			reordered++
		}
	}
	if parsed < 100 || refused < 100 || reordered < 100 {
		t.Errorf("%d texts parsed, %d of them in another order, %d refused", parsed, reordered, refused)
	}
}

func TestParseArcsExamples(t *testing.T) {
	if got, ok := impl.ParseArcs(bufferArcs); !ok || !sameSTG(got, buffer()) {
		t.Errorf("ParseArcs of the buffer: %v %v", got, ok)
	}
	late := impl.STG{Signals: inputs("s", 1), Labels: []impl.Label{down(0), up(0)}, Start: "10"}
	if got, ok := impl.ParseArcs("in s0\ns0- s0+ *\ns0+ s0-\n"); !ok || !sameSTG(got, arcs(late, [2]int{0, 1}, [2]int{1, 0})) {
		t.Errorf("ParseArcs in the order of mention: %v %v", got, ok)
	}
	text, ok := impl.FormatArcs(ranked())
	if !ok || !strings.Contains(text, "\n~/1 ~/2 *\n") {
		t.Errorf("FormatArcs: %q %v", text, ok)
	}
	if got, ok := impl.ParseArcs(text); !ok || !sameSTG(got, inOrderOfMention(ranked())) {
		t.Errorf("ParseArcs of ranked names: %v %v", got, ok)
	}
	for _, text := range []string{
		"", "\n", "in a", "in a\n", "a+ a+\n", "in a\nstart 1\n", "in a\nstart 1\na+ 0 > 0\n", bufferText, bufferArcs + "\n", bufferArcs[:len(bufferArcs)-1],
		"in a\n\na+ a+\n", "in a\na+\n", "in a\na+ \n", "in a\n a+\n", "in a\na+ a+ \n", "in a\na+ a+  *\n", "in a\na+ a+ x\n", "in a\na+ a+ **\n", "in a\na+ a+ * *\n", "in a\n* a+ a+\n",
		"in a\na+ b+\nb+ a+\n", "in a\na+ +\n+ a+\n", "in \na+ a+\n", "in \n+ +\n", "in a a\na+ a+\n", "out a\nin b\na+ a+\n", "in a\na+ a+\nout b\n", "in a\nin b\na+ a+\n", "in\na+ a+\n",
		"in a\na+ a+/1\na+/1 a+\n", "in a\na+/1 a+/1\n", "in a\na+/1 a+/3\na+/3 a+/1\n", "in a\na+/2 a+/1\na+/1 a+/2\n", "in a\na+/0 a+/1\na+/1 a+/0\n", "in a\na+/1 a+/02\na+/02 a+/1\n",
		"in a\na+/ a+/\n", "in a\na+/1/1 a+/1/1\n", "in a\na+/1 a+\na+ a+/1\n", "in a\n~/1 ~/1\n", "in a\n~+ ~+\n", "in a\na a\n", "in A\nA+ A+\n", "in ~\n~+ ~+\n",
		"in a\na+ a-\n", "in a\na+ a-\na+ a+\na+ ~\na- ~/1\n", "in a\nout a\na+ a+\n",
	} {
		if got, ok := impl.ParseArcs(text); ok || !isZeroSTG(got) {
			t.Errorf("ParseArcs of %q: %v %v", text, got, ok)
		}
	}
}

func TestArcLimits(t *testing.T) {
	loops := func(count int) string {
		text := "in a\n"
		for i := range count {
			text += fmt.Sprintf("a+/%d a+/%d\n", i+1, i+1)
		}
		return text
	}
	if got, ok := impl.ParseArcs(loops(impl.MaxTransitions)); !ok || len(got.Labels) != impl.MaxTransitions {
		t.Errorf("ParseArcs with all transitions: %v", ok)
	}
	if got, ok := impl.ParseArcs(loops(impl.MaxTransitions + 1)); ok || !isZeroSTG(got) {
		t.Errorf("ParseArcs with too many transitions: %v", ok)
	}
	side := "in a\n" + strings.Repeat("a- a-\n", impl.MaxPlaces)
	if got, ok := impl.ParseArcs(side); !ok || got.Net.Places != impl.MaxPlaces {
		t.Errorf("ParseArcs with all places: %v", ok)
	}
	if got, ok := impl.ParseArcs(side + "a- a-\n"); ok || !isZeroSTG(got) {
		t.Errorf("ParseArcs with too many places: %v", ok)
	}
	if got, ok := impl.ParseArcs("in a b c d e f g h i\ni- i-\n"); ok || !isZeroSTG(got) {
		t.Errorf("ParseArcs with too many signals: %v", ok)
	}
	if got, ok := impl.ParseArcs("in a b c d e f g h\nh- h-\n"); !ok || len(got.Signals) != impl.MaxSignals {
		t.Errorf("ParseArcs with all signals: %v", ok)
	}
	for _, text := range []string{strings.Repeat("a+ a+\n", 666), "in a\n" + strings.Repeat("a+ a+\n", 666), strings.Repeat("\n", 4001), strings.Repeat("x", 5000)} {
		if got, ok := impl.ParseArcs(text); ok || !isZeroSTG(got) {
			t.Errorf("ParseArcs of %d bytes: %v", len(text), ok)
		}
	}
}

var arcLine = regexp.MustCompile(`^(?:([a-z0-9]+[+-]|~)(/[0-9]+)?) (?:([a-z0-9]+[+-]|~)(/[0-9]+)?)( \*)?$`)

// isRuleArcs reports whether text is that of a marked graph with its transitions in the order of mention.
func isRuleArcs(text string) bool {
	head := regexp.MustCompile(`^(in( [^ \n]+)+\n)?(out( [^ \n]+)+\n)?(inner( [^ \n]+)+\n)?`).FindString(text)
	s, _, _, ok := impl.ParseSTG(head + "start 1\n")
	if !ok || !strings.HasSuffix(text, "\n") || len(text) == len(head) {
		return false
	}
	declared := map[string]bool{"~": true}
	for _, x := range s.Signals {
		declared[x.Name+"+"], declared[x.Name+"-"] = true, true
	}
	names, consumers := map[string][]string{}, map[string]bool{}
	body := strings.Split(strings.TrimSuffix(text[len(head):], "\n"), "\n")
	for _, line := range body {
		m := arcLine.FindStringSubmatch(line)
		if m == nil || !declared[m[1]] || !declared[m[3]] {
			return false
		}
		for _, x := range [][2]string{{m[1], m[2]}, {m[3], m[4]}} {
			if !slices.Contains(names[x[0]], x[1]) {
				names[x[0]] = append(names[x[0]], x[1])
			}
		}
		consumers[m[3]+m[4]] = true
	}
	count := 0
	for label, ranks := range names {
		for i, rank := range ranks {
			if want := fmt.Sprint("/", i+1); rank != want && (rank != "" || len(ranks) > 1) || rank == want && len(ranks) == 1 || !consumers[label+rank] {
				return false
			}
		}
		count += len(ranks)
	}
	return len(body) <= impl.MaxPlaces && count <= impl.MaxTransitions
}

func checkArcs(t *testing.T, text string) bool {
	t.Helper()
	s, ok := impl.ParseArcs(text)
	if ok != isRuleArcs(text) {
		t.Errorf("ParseArcs of %q: %v", text, ok)
	}
	formatted, okToo := impl.FormatArcs(s)
	if ok && (!okToo || formatted != text || !sameSTG(inOrderOfMention(s), s)) || !ok && !isZeroSTG(s) {
		t.Errorf("ParseArcs of %q: %v", text, s)
	}
	return ok
}

func TestArcsOneByteOff(t *testing.T) {
	accepted, refused := 0, 0
	count := func(text string) {
		if checkArcs(t, text) {
			accepted++
		} else {
			refused++
		}
	}
	text, _ := impl.FormatArcs(inOrderOfMention(ranked()))
	for _, text := range []string{bufferArcs, text, "inner a\n~/1 a- *\na- ~/2\na- ~/1\n"} {
		oneByteOff(text, count)
	}
	x := numbers(9)
	for range 20000 {
		count(shuffled(&x, []string{bufferArcs, text}[x.below(2)]))
	}
	if accepted < 500 || refused < 1000 {
		t.Errorf("%d texts accepted, %d refused", accepted, refused)
	}
}

func TestUnusedPlaces(t *testing.T) {
	for _, c := range []struct {
		s    impl.STG
		want []int
	}{
		{buffer(), nil}, {crossing(), []int{6, 7, 8}}, {labelled(inputs("s", 1)), []int{0}},
		{impl.STG{Net: net(impl.MaxPlaces), Signals: inputs("s", 1), Start: strings.Repeat("0", impl.MaxPlaces)}, upTo(impl.MaxPlaces)},
		{impl.STG{Net: net(4, move([]int{1}, []int{2})), Signals: inputs("s", 1), Labels: []impl.Label{up(0)}, Start: "1111"}, []int{0, 3}},
	} {
		if got, ok := impl.UnusedPlaces(c.s); !ok || !slices.Equal(got, c.want) {
			t.Errorf("UnusedPlaces of %v: %v %v", c.s, got, ok)
		}
	}
}

func TestRemovePlace(t *testing.T) {
	want := crossing()
	want.Net = net(11, move([]int{0, 8, 9}, []int{10}), move([]int{10}, nil), move([]int{1, 2}, []int{1, 2, 3}),
		move([]int{3}, []int{9}), move([]int{4}, []int{0, 10}), move([]int{5}, []int{5}))
	want.Start = "10000000011"
	marked := crossing()
	marked.Start = "100000010011"
	for _, c := range []struct {
		s impl.STG
		p int
	}{{crossing(), 6}, {crossing(), 7}, {crossing(), 8}, {marked, 7}} {
		if got, ok := impl.RemovePlace(c.s, c.p); !ok || !sameSTG(got, want) || !impl.IsValidSTG(got) {
			t.Errorf("RemovePlace %d: %v %v", c.p, got, ok)
		}
	}
	for _, p := range []int{0, 1, 2, 3, 4, 5, 9, 10, 11, 12, 13, -1, math.MaxInt, math.MinInt} {
		if got, ok := impl.RemovePlace(crossing(), p); ok || !isZeroSTG(got) {
			t.Errorf("RemovePlace %d: %v %v", p, got, ok)
		}
	}
	if got, ok := impl.RemovePlace(labelled(inputs("s", 1)), 0); ok || !isZeroSTG(got) {
		t.Errorf("RemovePlace of the only place: %v %v", got, ok)
	}
	two := impl.STG{Net: net(2), Signals: inputs("s", 1), Start: "10"}
	for p, start := range []string{"0", "1"} {
		if got, ok := impl.RemovePlace(two, p); !ok || got.Start != start || got.Net.Places != 1 {
			t.Errorf("RemovePlace of two: %v %v", got, ok)
		}
	}
}

// TestInvalidTextArguments checks that every result for an invalid graph is zero.
func TestInvalidTextArguments(t *testing.T) {
	for _, s := range invalidSTGs() {
		if got, ok := impl.FormatSTG(s); got != "" || ok {
			t.Errorf("FormatSTG of %v: %q %v", s, got, ok)
		}
		if got, ok := impl.IsMarkedGraph(s); got || ok {
			t.Errorf("IsMarkedGraph of %v: %v %v", s, got, ok)
		}
		if got, ok := impl.FormatArcs(s); got != "" || ok {
			t.Errorf("FormatArcs of %v: %q %v", s, got, ok)
		}
		if got, ok := impl.UnusedPlaces(s); len(got) != 0 || ok {
			t.Errorf("UnusedPlaces of %v: %v %v", s, got, ok)
		}
		for p := range 3 {
			if got, ok := impl.RemovePlace(s, p); ok || !isZeroSTG(got) {
				t.Errorf("RemovePlace of %v: %v %v", s, got, ok)
			}
		}
	}
}

// checkTextCalls checks promise 29 for chapter 3.
func checkTextCalls(t *testing.T, s impl.STG, text string, p int) {
	t.Helper()
	defer mustNotPanic(t, "a function of chapter 3")
	s = stgWithSpare(s)
	before := wholeSTG(s)
	impl.FormatSTG(s)
	impl.ParseSTG(text)
	impl.IsMarkedGraph(s)
	impl.FormatArcs(s)
	impl.ParseArcs(text)
	impl.UnusedPlaces(s)
	impl.RemovePlace(s, p)
	if !reflect.DeepEqual(wholeSTG(s), before) {
		t.Errorf("an argument has changed: %v", s)
	}
}

func TestTextNoPanicNoChange(t *testing.T) {
	texts := []string{"", "\n", "in", "in \n", "~\n", "in a\nstart 1\n>\n", "in a\nstart 1\n\n", "in a\n/ /\n", "\xff\n", strings.Repeat(" ", 3999) + "\n"}
	for i, s := range append(append(validSTGs(), invalidSTGs()...), crossing(), ranked()) {
		for _, p := range []int{0, 1, 6, 8, 29, 30, -1, math.MaxInt, math.MinInt} {
			checkTextCalls(t, s, texts[i%len(texts)], p)
		}
	}
	x := numbers(10)
	for range 1000 {
		var text []byte
		for range x.below(30) {
			text = append(text, "in out+-~>*/ \n01ax\x00\xff"[x.below(20)])
		}
		checkTextCalls(t, someMarkedGraph(&x), string(text)+"\n", x.below(10))
	}
}

// TestTextNewMemory checks that no result shares memory with an argument or a later result, and no list of a result with another one.
func TestTextNewMemory(t *testing.T) {
	both := withSpare([]int{1, 2})
	s := stgWithSpare(impl.STG{Net: net(4, move(both, both), move(both, both)), Signals: inputs("s", 2), Labels: []impl.Label{up(0), dummy()}, Start: "1000"})
	s.Net.Transitions[0].Post = s.Net.Transitions[0].Pre
	before := wholeSTG(s)
	unused, ok := impl.UnusedPlaces(s)
	overwriteInts(unused)
	rest, okToo := impl.RemovePlace(s, 0)
	if !ok || !okToo || listsShare(rest.Net) {
		t.Errorf("RemovePlace: two lists of a result share memory: %v", rest)
	}
	overwriteSTG(rest)
	if !reflect.DeepEqual(wholeSTG(s), before) {
		t.Error("a result shares memory with an argument")
	}
	for name, parse := range map[string]func() (impl.STG, bool){
		"ParseSTG":  func() (impl.STG, bool) { s, _, _, ok := impl.ParseSTG(bufferText); return s, ok },
		"ParseArcs": func() (impl.STG, bool) { return impl.ParseArcs(bufferArcs) },
	} {
		first, ok := parse()
		if !ok || listsShare(first.Net) {
			t.Errorf("%s: two lists of a result share memory: %v", name, first)
		}
		overwriteSTG(first)
		if second, ok := parse(); !ok || !sameSTG(second, buffer()) {
			t.Errorf("%s: a result is kept: %v", name, second)
		}
	}
}
