package netfmt

import (
	"fmt"
	"math"
	"math/big"
	"regexp"
	"slices"
	"strconv"
	"strings"
	"testing"

	"ebbtide/api"
)

const (
	most  = math.MaxInt64
	least = math.MinInt64
	// twenty is what an arc's Cap and Time may be at most.
	twenty = 1048576
)

// numbers returns a function that returns one number after the other, the same
// ones in each run.
func numbers(seed uint64) func(below int) int {
	return func(below int) int {
		seed = seed*6364136223846793005 + 1442695040888963407
		return int(seed>>33) % below
	}
}

// same reports whether two networks are equal; an empty list may be nil or not.
func same(a, b api.Net) bool {
	return a.Nodes == b.Nodes && a.Hold == b.Hold && slices.Equal(a.Arcs, b.Arcs)
}

// isZero reports whether nothing is in a network.
func isZero(n api.Net) bool { return n.Nodes == 0 && !n.Hold && len(n.Arcs) == 0 }

// someArcs returns so many arcs that are right in every network.
func someArcs(n int) []api.Arc {
	l := make([]api.Arc, n)
	for i := range l {
		l[i] = api.Arc{Cap: i, Time: 2 * i}
	}
	return l
}

// nets returns networks that are right: the smallest, the greatest, and ones
// with arcs of all kinds.
func nets() []api.Net {
	next := numbers(5)
	edges := []int{0, 1, 2, 9, 10, 1000, twenty - 1, twenty}
	out := []api.Net{
		{Nodes: 1}, {Nodes: 1, Hold: true}, {Nodes: 50}, {Nodes: 50, Hold: true, Arcs: []api.Arc{}},
		{Nodes: 1, Arcs: someArcs(200)}, {Nodes: 50, Hold: true, Arcs: someArcs(199)},
		{Nodes: 2, Arcs: []api.Arc{{To: 1, Cap: 7}, {To: 1, Cap: 7}, {From: 1, Time: twenty}, {From: 1, To: 1, Cap: twenty}}},
	}
	for nodes := 1; nodes <= 50; nodes++ {
		n := api.Net{Nodes: nodes, Hold: next(2) == 0}
		for range next(201) {
			n.Arcs = append(n.Arcs, api.Arc{From: next(nodes), To: next(nodes), Cap: edges[next(len(edges))], Time: edges[next(len(edges))]})
		}
		out = append(out, n)
	}
	return out
}

func TestCheckOfNodes(t *testing.T) {
	for nodes, want := range map[int]api.Errno{
		least: api.ErrNet, -50: api.ErrNet, -1: api.ErrNet, 0: api.ErrNet,
		1: api.OK, 2: api.OK, 49: api.OK, 50: api.OK,
		51: api.ErrLimit, 52: api.ErrLimit, 200: api.ErrLimit, most: api.ErrLimit,
	} {
		for _, hold := range []bool{false, true} {
			if got := Check(api.Net{Nodes: nodes, Hold: hold}); got != want {
				t.Errorf("E1: %d nodes: %d, want %d", nodes, got, want)
			}
		}
	}
}

func TestCheckOfTheNumberOfArcs(t *testing.T) {
	for arcs, want := range map[int]api.Errno{
		0: api.OK, 1: api.OK, 50: api.OK, 51: api.OK, 199: api.OK, 200: api.OK,
		201: api.ErrLimit, 202: api.ErrLimit, 5000: api.ErrLimit,
	} {
		for _, nodes := range []int{1, 50} {
			if got := Check(api.Net{Nodes: nodes, Arcs: someArcs(arcs)}); got != want {
				t.Errorf("E1: %d nodes, %d arcs: %d, want %d", nodes, arcs, got, want)
			}
		}
	}
}

// arcError returns what the check of an arc asks for.
func arcError(a api.Arc, nodes int) api.Errno {
	for _, end := range []int{a.From, a.To} {
		if end < 0 || end > nodes-1 {
			return api.ErrNet
		}
	}
	if min(a.Cap, a.Time) < 0 {
		return api.ErrNet
	}
	if max(a.Cap, a.Time) > twenty {
		return api.ErrLimit
	}
	return api.OK
}

// someEnds returns ends of arcs inside and beyond so many nodes.
func someEnds(nodes int) []int {
	return []int{least, -1, 0, nodes / 2, nodes - 1, nodes, nodes + 1, most}
}

// someAmounts returns Caps and Times at the edges and beyond.
func someAmounts() []int { return []int{least, -1, 0, 1, twenty - 1, twenty, twenty + 1, most} }

func TestCheckOfAnArc(t *testing.T) {
	for _, nodes := range []int{1, 2, 3, 50} {
		for _, from := range someEnds(nodes) {
			for _, to := range someEnds(nodes) {
				for _, amount := range someAmounts() {
					for _, time := range someAmounts() {
						a := api.Arc{From: from, To: to, Cap: amount, Time: time}
						want := arcError(a, nodes)
						if got := Check(api.Net{Nodes: nodes, Arcs: []api.Arc{a}}); got != want {
							t.Errorf("E1: %d nodes, %v: %d, want %d", nodes, a, got, want)
						}
					}
				}
			}
		}
	}
}

func TestCheckOfAnArcAtTheEdges(t *testing.T) {
	for a, want := range map[api.Arc]api.Errno{
		{}: api.OK, {From: 2, To: 2}: api.OK, {To: 2}: api.OK, {From: 2}: api.OK,
		{From: 3}: api.ErrNet, {To: 3}: api.ErrNet, {From: -1}: api.ErrNet, {To: -1}: api.ErrNet,
		{Cap: twenty}: api.OK, {Cap: twenty + 1}: api.ErrLimit, {Cap: -1}: api.ErrNet,
		{Time: twenty}: api.OK, {Time: twenty + 1}: api.ErrLimit, {Time: -1}: api.ErrNet,
		{Cap: -1, Time: twenty + 1}: api.ErrNet, {Cap: twenty + 1, Time: -1}: api.ErrNet,
		{To: 3, Cap: twenty + 1}: api.ErrNet, {From: 3, Time: twenty + 1}: api.ErrNet,
	} {
		if got := Check(api.Net{Nodes: 3, Arcs: []api.Arc{a}}); got != want {
			t.Errorf("E1: %v: %d, want %d", a, got, want)
		}
	}
}

func TestOrderOfErrors(t *testing.T) {
	right := api.Arc{To: 1, Cap: 3, Time: 4}
	wrong := api.Arc{From: -1, To: 1}
	great := api.Arc{To: 1, Cap: twenty + 1}
	for _, c := range []struct {
		nodes int
		arcs  []api.Arc
		want  api.Errno
	}{
		{2, []api.Arc{wrong, great}, api.ErrNet}, {2, []api.Arc{great, wrong}, api.ErrLimit},
		{2, []api.Arc{right, right, wrong, right, great}, api.ErrNet}, {2, []api.Arc{right, great, right, wrong}, api.ErrLimit},
		{2, append(someArcs(199), wrong), api.ErrNet}, {2, append(someArcs(199), great), api.ErrLimit},
		{2, append([]api.Arc{wrong}, someArcs(200)...), api.ErrLimit}, {2, append(someArcs(200), wrong), api.ErrLimit},
		{0, []api.Arc{great}, api.ErrNet}, {0, someArcs(201), api.ErrNet}, {-1, append(someArcs(201), great), api.ErrNet},
		{51, []api.Arc{wrong}, api.ErrLimit}, {51, []api.Arc{right}, api.ErrLimit}, {51, append(someArcs(201), wrong), api.ErrLimit},
	} {
		n := api.Net{Nodes: c.nodes, Arcs: c.arcs}
		if got := Check(n); got != c.want {
			t.Errorf("E1: %d nodes, %d arcs, the first %v: %d, want %d", c.nodes, len(c.arcs), c.arcs[0], got, c.want)
		}
		if s, err := Print(n); s != "" || err != c.want {
			t.Errorf("E2: %d nodes, %d arcs, the first %v: %q %d, want %d", c.nodes, len(c.arcs), c.arcs[0], s, err, c.want)
		}
	}
}

func TestCheckOfNets(t *testing.T) {
	for i, n := range nets() {
		if got := Check(n); got != api.OK {
			t.Errorf("E1: network %d: %d", i, got)
		}
	}
}

// textOf returns the text of a network that is right.
func textOf(n api.Net) string {
	s := fmt.Sprintf("net %d %s\n", n.Nodes, map[bool]string{false: "free", true: "hold"}[n.Hold])
	for _, a := range n.Arcs {
		s += fmt.Sprintf("arc %d %d %d %d\n", a.From, a.To, a.Cap, a.Time)
	}
	return s
}

func TestPrint(t *testing.T) {
	for i, n := range nets() {
		if got, err := Print(n); got != textOf(n) || err != api.OK {
			t.Errorf("E2: network %d: %q %d", i, got, err)
		}
	}
	for _, c := range []struct {
		n    api.Net
		want string
	}{
		{api.Net{Nodes: 1}, "net 1 free\n"},
		{api.Net{Nodes: 50, Hold: true, Arcs: []api.Arc{{From: 49, To: 3, Cap: twenty, Time: 0}, {From: 3, To: 49, Cap: 0, Time: twenty}}},
			"net 50 hold\narc 49 3 1048576 0\narc 3 49 0 1048576\n"},
		{api.Net{Nodes: 5, Arcs: []api.Arc{{From: 1, To: 2, Cap: 3, Time: 4}}}, "net 5 free\narc 1 2 3 4\n"},
	} {
		if got, err := Print(c.n); got != c.want || err != api.OK {
			t.Errorf("E2: %v: %q %d, want %q", c.n, got, err, c.want)
		}
	}
}

func TestPrintOfWrongNets(t *testing.T) {
	for _, c := range []struct {
		n    api.Net
		want api.Errno
	}{
		{api.Net{}, api.ErrNet}, {api.Net{Nodes: -1, Hold: true}, api.ErrNet}, {api.Net{Nodes: 51}, api.ErrLimit},
		{api.Net{Nodes: 1, Arcs: someArcs(201)}, api.ErrLimit},
		{api.Net{Nodes: 1, Arcs: []api.Arc{{}, {To: 1}}}, api.ErrNet},
		{api.Net{Nodes: 1, Arcs: []api.Arc{{}, {Time: twenty + 1}}}, api.ErrLimit},
	} {
		if got, err := Print(c.n); got != "" || err != c.want {
			t.Errorf("E2: %d nodes, %d arcs: %q %d, want %d", c.n.Nodes, len(c.n.Arcs), got, err, c.want)
		}
	}
}

// What a line may be, as E3 says it: the numbers may be any words there.
var (
	ignoredForm = regexp.MustCompile(`(?s)^ *(#.*)?$`)
	netForm     = regexp.MustCompile(`^ *net +([^ ]+) +(hold|free) *$`)
	arcForm     = regexp.MustCompile(`^ *arc +([^ ]+) +([^ ]+) +([^ ]+) +([^ ]+) *$`)
	numberForm  = regexp.MustCompile(`^(0|-?[1-9][0-9]*)$`)
)

// numbersAnew returns the numbers of the words, or the first error.
func numbersAnew(words []string) ([]int, api.Errno) {
	var out []int
	for _, s := range words {
		if !numberForm.MatchString(s) {
			return nil, api.ErrNumber
		}
		n, _ := new(big.Int).SetString(s, 10)
		if n.CmpAbs(big.NewInt(1e18)) >= 0 {
			return nil, api.ErrOver
		}
		out = append(out, int(n.Int64()))
	}
	return out, api.OK
}

// nodesAnew returns the number of nodes that the word is, or the error.
func nodesAnew(word string) (int, api.Errno) {
	l, err := numbersAnew([]string{word})
	switch {
	case err != api.OK:
		return 0, err
	case l[0] < 1:
		return 0, api.ErrNet
	case l[0] > 50:
		return 0, api.ErrLimit
	}
	return l[0], api.OK
}

// arcAnew returns the arc that the words are, or the error.
func arcAnew(words []string, nodes, before int) (api.Arc, api.Errno) {
	l, err := numbersAnew(words)
	if err != api.OK {
		return api.Arc{}, err
	}
	a := api.Arc{From: l[0], To: l[1], Cap: l[2], Time: l[3]}
	err = arcError(a, nodes)
	if err == api.OK && before == 200 {
		err = api.ErrLimit
	}
	return a, err
}

// parseAnew returns what E3 asks for.
func parseAnew(s string) (api.Net, int, api.Errno) {
	var n api.Net
	begun := false
	for i, line := range strings.Split(s, "\n") {
		var err api.Errno
		net, arc := netForm.FindStringSubmatch(line), arcForm.FindStringSubmatch(line)
		if ignoredForm.MatchString(line) {
			continue
		} else if !begun && net != nil {
			begun = true
			n.Hold = net[2] == "hold"
			n.Nodes, err = nodesAnew(net[1])
		} else if begun && arc != nil {
			var a api.Arc
			a, err = arcAnew(arc[1:], n.Nodes, len(n.Arcs))
			n.Arcs = append(n.Arcs, a)
		} else {
			err = api.ErrLine
		}
		if err != api.OK {
			return api.Net{}, i + 1, err
		}
	}
	if !begun {
		return api.Net{}, 0, api.ErrLine
	}
	return n, 0, api.OK
}

// testParse holds Parse of s against what E3 asks for.
func testParse(t *testing.T, s string) {
	t.Helper()
	n, line, err := Parse(s)
	want, wantLine, wantErr := parseAnew(s)
	if !same(n, want) || line != wantLine || err != wantErr {
		t.Errorf("E3: Parse(%q): %v %d %d, want %v %d %d", s, n, line, err, want, wantLine, wantErr)
	}
	if err != api.OK && !isZero(n) {
		t.Errorf("E3: Parse(%q) with %d: %v", s, err, n)
	}
}

// lists returns all lists of at most that many of the parts.
func lists(most int, parts ...string) [][]string {
	out := [][]string{nil}
	last := out
	for range most {
		var longer [][]string
		for _, l := range last {
			for _, part := range parts {
				longer = append(longer, append(slices.Clone(l), part))
			}
		}
		out = append(out, longer...)
		last = longer
	}
	return out
}

// someLines returns lines that are right, ignored and wrong.
func someLines() []string {
	return []string{
		"", " ", "#", "#net 2 free", "  # x", "net 2 hold", "net 3  free ", " arc 0 1 5 3", "arc  1 2 1048576 0",
		"arc 0 1 -1 1048577", "arc 0 1 1 1048577", "arc 0 1 x 1000000000000000000", "arc 0 1 1000000000000000000 x",
		"arc 0 1 1", "arc 0 1 1 1 1", "net 0 free", "net 51 hold", "net 2", "node",
	}
}

func TestParseOfLines(t *testing.T) {
	for _, l := range lists(4, someLines()...) {
		testParse(t, strings.Join(l, "\n"))
	}
	for _, l := range lists(3, someLines()...) {
		testParse(t, strings.Join(append(l, ""), "\n"))
		testParse(t, strings.Join(append(l, "", ""), "\n"))
	}
}

func TestParseOfWords(t *testing.T) {
	for _, l := range lists(5, "net", "arc", "2", "x", "hold", "free", "#") {
		line := strings.Join(l, " ")
		testParse(t, line)
		testParse(t, "net 3 free\n"+line)
	}
}

// someNumbers returns words that are numbers, at the edges, and words that are
// none.
func someNumbers() []string {
	return []string{
		"0", "1", "2", "49", "50", "51", "-1", "1048576", "1048577", "999999999999999999", "-999999999999999999",
		"1000000000000000000", "-1000000000000000000", "18446744073709551617", "00", "01", "-0", "+1", "1.0", "1e1", "0x1", "-", "x", "1_0", "\u0661", "1\t", "\r",
	}
}

func TestParseOfNumbers(t *testing.T) {
	l := someNumbers()
	for _, s := range l {
		testParse(t, "net "+s+" hold")
		testParse(t, "net "+s+" maybe")
	}
	for i := range 4 {
		for j := range 4 {
			for _, first := range l {
				for _, second := range l {
					words := []string{"0", "1", "2", "3"}
					words[i], words[j] = first, second
					testParse(t, "net 2 free\narc "+strings.Join(words, " "))
					testParse(t, "net 50 hold\n\narc "+strings.Join(words, " ")+"\narc 0 0 0 0")
				}
			}
		}
	}
}

func TestParseOfBytes(t *testing.T) {
	for b := range 256 {
		s := string([]byte{byte(b)})
		for _, before := range []string{"", "net 2 hold", "net 2 hold\n", "net 2 hold\narc 0 1 5 3", "net 2", "net 2 hold\narc 0 1 5 ", "\n", "#"} {
			testParse(t, before+s)
			testParse(t, s+before)
			testParse(t, before+s+"arc 0 1 5 3")
			testParse(t, before+" "+s+" 3")
		}
	}
}

func TestParseOfMixedTexts(t *testing.T) {
	parts := append(someLines(), " ", "\n", "\n", "\n", "-", "0", "1", "\xff", "\x00", "é", "\r\n", "net 1 free\n", "\narc 0 0 0 0")
	next := numbers(9)
	for range 20000 {
		s := ""
		for range next(9) {
			s += parts[next(len(parts))]
		}
		testParse(t, s)
		testParse(t, "net 2 free\n"+s)
	}
}

// testError looks for an error in a line of s.
func testError(t *testing.T, s string, wantLine int, want api.Errno) {
	t.Helper()
	if n, line, err := Parse(s); !isZero(n) || line != wantLine || err != want {
		t.Errorf("E3: Parse(%q): %v %d %d, want %d %d", s, n, line, err, wantLine, want)
	}
}

func TestTextsWithoutLines(t *testing.T) {
	for _, s := range []string{"", "\n", "\n\n\n", " ", "   \n ", "#", "# nothing", " #x\n\n#net 2 free\n", "##"} {
		testError(t, s, 0, api.ErrLine)
	}
	testError(t, "#\narc", 2, api.ErrLine)
}

func TestFormOfLines(t *testing.T) {
	for _, s := range []string{
		"net", "net 2", "net hold", "net 2 hold free", "net 2 hold 3", "net hold 2", "net 2 Hold", "net 2 holds", "net 2 fre", "net 2 maybe", "Net 2 hold", "nets 2 hold",
		"arc 0 1 5 3", "arc", "2 hold", "hold", "net2 hold", "net 2hold", "net\t2\thold", "net 2 hold\r", "\t", "\tnet 2 hold", "\t# x", "-# x", "net # hold x", "\ufeffnet 2 hold",
		"net x", "net x maybe", "net 1000000000000000000 maybe", "net 51 maybe", "net 0",
	} {
		testError(t, s, 1, api.ErrLine)
		testError(t, "\n # x\n"+s+"\nnet 2 hold", 3, api.ErrLine)
	}
	for _, s := range []string{
		"arc", "arc 0", "arc 0 1", "arc 0 1 5", "arc 0 1 5 3 0", "arc 0 1 5 3 # x", "arc 0 1 5 3 x", "Arc 0 1 5 3", "arcs 0 1 5 3", "0 1 5 3", "0 1 5 3 arc", "net 2 hold", "net 2 free", "net",
		"arc x", "arc x 1 5", "arc 9 9 9 -9 9", "arc 1000000000000000000", "\t", "\r", "arc\t0 1 5 3", "hold", "node 0 1 5 3",
	} {
		testError(t, "net 2 hold\n"+s, 2, api.ErrLine)
		testError(t, "# x\nnet 2 hold\n\narc 0 1 5 3\n"+s+"\narc 0 1 5 3\n", 5, api.ErrLine)
	}
}

func TestErrorsOfTheFirstLine(t *testing.T) {
	for word, want := range map[string]api.Errno{
		"x": api.ErrNumber, "02": api.ErrNumber, "-0": api.ErrNumber, "+2": api.ErrNumber, "2.": api.ErrNumber, "net": api.ErrNumber, "#": api.ErrNumber,
		"0000000000000000000000": api.ErrNumber, "100000000000000000000x": api.ErrNumber,
		"1000000000000000000": api.ErrOver, "-1000000000000000000": api.ErrOver, "18446744073709551618": api.ErrOver,
		"0": api.ErrNet, "-1": api.ErrNet, "-999999999999999999": api.ErrNet, "51": api.ErrLimit, "999999999999999999": api.ErrLimit,
	} {
		testError(t, "net "+word+" hold", 1, want)
		testError(t, "\n\nnet "+word+" free\narc 0 1", 3, want)
	}
}

func TestErrorsOfAnArcsLine(t *testing.T) {
	for words, want := range map[string]api.Errno{
		"x 1 5 3": api.ErrNumber, "0 x 5 3": api.ErrNumber, "0 1 x 3": api.ErrNumber, "0 1 5 x": api.ErrNumber, "0 1 05 3": api.ErrNumber, "0 -0 5 3": api.ErrNumber,
		"1000000000000000000 1 5 3": api.ErrOver, "0 1 5 -1000000000000000000": api.ErrOver,
		"x 1000000000000000000 5 3": api.ErrNumber, "1000000000000000000 x 5 3": api.ErrOver, "0 1 1000000000000000000 x": api.ErrOver, "0 1 x 1000000000000000000": api.ErrNumber,
		"-1 1 5 x": api.ErrNumber, "0 2 1000000000000000000 3": api.ErrOver, "0 1 1048577 x": api.ErrNumber,
		"-1 1 5 3": api.ErrNet, "0 -1 5 3": api.ErrNet, "2 1 5 3": api.ErrNet, "0 2 5 3": api.ErrNet, "0 1 -1 3": api.ErrNet, "0 1 5 -1": api.ErrNet,
		"0 1 1048577 3": api.ErrLimit, "0 1 5 1048577": api.ErrLimit, "0 1 999999999999999999 3": api.ErrLimit,
		"0 1 1048577 -1": api.ErrNet, "0 1 -1 1048577": api.ErrNet, "0 2 1048577 3": api.ErrNet, "-1 1 5 1048577": api.ErrNet,
	} {
		testError(t, "net 2 hold\narc "+words, 2, want)
		testError(t, "net 2 free\narc 0 1 5 3\n\n#\narc "+words+"\narc", 5, want)
	}
}

func TestFirstErrorCounts(t *testing.T) {
	wrong := map[string]api.Errno{
		"arc": api.ErrLine, "arc 0 0 x 0": api.ErrNumber, "arc 0 0 0 1000000000000000000": api.ErrOver, "arc 0 9 0 0": api.ErrNet, "arc 0 0 0 1048577": api.ErrLimit,
	}
	for first, want := range wrong {
		for second := range wrong {
			testError(t, "net 1 free\n"+first+"\n"+second, 2, want)
			testError(t, "#\nnet 1 free\narc 0 0 0 0\n"+first+"\narc 0 0 0 0\n"+second+"\n", 4, want)
		}
	}
}

func TestParseOfManyArcs(t *testing.T) {
	const arc = "arc 0 0 1 1\n"
	text := "net 1 free\n" + strings.Repeat(arc, 200)
	for _, behind := range []string{"", "\n", "#\n \n# arc 0 0 1 1"} {
		if n, line, err := Parse(text + behind); n.Nodes != 1 || len(n.Arcs) != 200 || line != 0 || err != api.OK {
			t.Errorf("E3: %d nodes, %d arcs, %d %d", n.Nodes, len(n.Arcs), line, err)
		}
	}
	for last, want := range map[string]api.Errno{
		"arc 0 0 1 1": api.ErrLimit, "arc 0 1 1 1": api.ErrNet, "arc 0 0 1 -1": api.ErrNet, "arc 0 0 1 1048577": api.ErrLimit,
		"arc 0 0 1 x": api.ErrNumber, "arc 0 0 1 1000000000000000000": api.ErrOver, "arc 0 0 1": api.ErrLine, "net 1 free": api.ErrLine,
	} {
		testError(t, text+last, 202, want)
		testError(t, text+"\n#\n"+last+"\n"+arc, 204, want)
	}
	testError(t, text+strings.Repeat(arc, 1000), 202, api.ErrLimit)
}

func TestParseUndoesPrint(t *testing.T) {
	for i, n := range nets() {
		s, err := Print(n)
		if err != api.OK {
			t.Fatalf("E2: network %d: %d", i, err)
		}
		got, line, err := Parse(s)
		if !same(got, n) || line != 0 || err != api.OK {
			t.Errorf("E4: network %d came back as %v %d %d", i, got, line, err)
		}
	}
}

// loosen returns a text of the same network with ignored lines and additional
// spaces, and without the last byte 10 at times.
func loosen(s string, next func(below int) int) string {
	spaces := func(least int) string { return strings.Repeat(" ", least+next(3)) }
	between := func() string {
		return []string{"", "", "\n", "   \n", "#\n", "  # arc 0 0\n", "#net 7 hold\n\n", "#\xff\r\t\n"}[next(8)]
	}
	out := between()
	for line := range strings.Lines(s) {
		out += spaces(0) + strings.Join(strings.Fields(line), spaces(1)) + spaces(0) + "\n" + between()
	}
	if next(2) == 0 {
		return strings.TrimSuffix(out, "\n")
	}
	return out
}

func TestLooseTexts(t *testing.T) {
	next := numbers(3)
	for i, n := range nets() {
		for range 5 {
			loose := loosen(textOf(n), next)
			got, line, err := Parse(loose)
			if !same(got, n) || line != 0 || err != api.OK {
				t.Errorf("E4: network %d: %q came back as %v %d %d", i, loose, got, line, err)
			}
			s, err := Print(got)
			if s != textOf(n) || err != api.OK {
				t.Errorf("E4: network %d: %q printed as %q %d", i, loose, s, err)
			}
			again, line, err := Parse(s)
			if !same(again, got) || line != 0 || err != api.OK {
				t.Errorf("E4: network %d: parsed again as %v %d %d", i, again, line, err)
			}
		}
	}
}

func TestErrorsOfLooseTexts(t *testing.T) {
	next := numbers(4)
	for _, l := range lists(3, someLines()...) {
		tight := strings.Join(l, "\n") + "\n"
		n, _, err := Parse(tight)
		loose := loosen(tight, next)
		got, _, gotErr := Parse(loose)
		if !same(got, n) || gotErr != err {
			t.Errorf("E4: Parse(%q): %v %d, but %v %d for %q", loose, got, gotErr, n, err, tight)
		}
		testParse(t, loose)
	}
}

func TestParsedNetsAreRight(t *testing.T) {
	for _, l := range lists(3, someLines()...) {
		n, _, err := Parse(strings.Join(l, "\n"))
		if err == api.OK && Check(n) != api.OK {
			t.Errorf("E4: %q is parsed as %v, which Check refuses", l, n)
		}
	}
}

func TestArgumentsStay(t *testing.T) {
	all := append(nets(), api.Net{}, api.Net{Nodes: 51, Arcs: someArcs(3)}, api.Net{Nodes: 1, Arcs: someArcs(202)},
		api.Net{Nodes: 2, Arcs: []api.Arc{{To: 1}, {To: 2}, {Cap: -1}, {Cap: twenty + 1}}})
	for i, n := range all {
		was := slices.Clone(n.Arcs)
		shorter := n
		shorter.Arcs = n.Arcs[:len(n.Arcs)/2]
		for _, given := range []api.Net{n, shorter} {
			Check(given)
			Print(given)
		}
		if !slices.Equal(n.Arcs, was) {
			t.Errorf("R3: network %d: %v became %v", i, was, n.Arcs)
		}
	}
}

func TestResultsAreApart(t *testing.T) {
	const s = "net 2 hold\narc 0 1 5 3\narc 1 0 2 2\n"
	want := api.Net{Nodes: 2, Hold: true, Arcs: []api.Arc{{To: 1, Cap: 5, Time: 3}, {From: 1, Cap: 2, Time: 2}}}
	for range 3 {
		n, line, err := Parse(s)
		if !same(n, want) || line != 0 || err != api.OK {
			t.Fatalf("R4: Parse(%q): %v %d %d", s, n, line, err)
		}
		clear(n.Arcs)
		Parse("net 1 free\narc 0 0 9 9\narc")
	}
}

func TestLongTexts(t *testing.T) {
	const lines = 1 << 18
	if n, line, err := Parse(strings.Repeat("\n# x\n", lines) + "net 2 free\n" + strings.Repeat("#\n", lines)); n.Nodes != 2 || line != 0 || err != api.OK {
		t.Errorf("E3: %v %d %d", n, line, err)
	}
	testError(t, strings.Repeat("\n", lines)+"net 2", lines+1, api.ErrLine)
	for _, s := range []string{strings.Repeat("9", lines), "-" + strings.Repeat("9", lines)} {
		if _, line, err := Parse("net " + s + " free"); line != 1 || err != api.ErrOver {
			t.Errorf("E3: a number of %d digits: %d %d", lines, line, err)
		}
	}
	if _, line, err := Parse("net 2 free\narc" + strings.Repeat(" 0", lines)); line != 2 || err != api.ErrLine {
		t.Errorf("E3: %d words: %d %d", lines, line, err)
	}
	if n, line, err := Parse(strings.Repeat(" ", lines) + "net 2" + strings.Repeat(" ", lines) + "hold"); n.Nodes != 2 || !n.Hold || line != 0 || err != api.OK {
		t.Errorf("E4: %v %d %d", n, line, err)
	}
}

func TestEveryNumberOfNodes(t *testing.T) {
	for nodes := -60; nodes <= 60; nodes++ {
		for _, hold := range []bool{false, true} {
			s := "net " + strconv.Itoa(nodes) + map[bool]string{false: " free", true: " hold"}[hold]
			testParse(t, s)
			if n, _, err := Parse(s); err != Check(api.Net{Nodes: nodes}) || err == api.OK && (n.Nodes != nodes || n.Hold != hold) {
				t.Errorf("E3: %q: %v %d", s, n, err)
			}
		}
	}
}

func TestExamples(t *testing.T) {
	want := api.Net{Nodes: 2, Hold: true, Arcs: []api.Arc{{From: 0, To: 1, Cap: 5, Time: 3}}}
	if n, line, err := Parse("net 2 hold\narc 0 1 5 3\n"); !same(n, want) || line != 0 || err != api.OK {
		t.Errorf("Parse: %v %d %d", n, line, err)
	}
	testError(t, "net 2 hold\narc 0 2 5 3", 2, api.ErrNet)
	testError(t, "# nothing", 0, api.ErrLine)
	testError(t, "net 51 free", 1, api.ErrLimit)
}
