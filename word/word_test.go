package word

import (
	"fmt"
	"math"
	"math/big"
	"regexp"
	"slices"
	"strings"
	"testing"

	"ebbtide/api"
)

const (
	most  = math.MaxInt64
	least = math.MinInt64
	// longest is the greatest number whose text Number takes.
	longest = 999999999999999999
)

// numbers returns a function that returns one number after the other, the same
// ones in each run.
func numbers(seed uint64) func() int {
	return func() int {
		seed = seed*6364136223846793005 + 1442695040888963407
		return int(seed ^ seed>>33)
	}
}

// texts returns all texts of at most that many of the parts.
func texts(most int, parts ...string) []string {
	out := []string{""}
	last := out
	for range most {
		var longer []string
		for _, s := range last {
			for _, part := range parts {
				longer = append(longer, s+part)
			}
		}
		out = append(out, longer...)
		last = longer
	}
	return out
}

// anyBytes returns for each byte texts in which it stands alone, at an end and
// inside.
func anyBytes() []string {
	var out []string
	for b := range 256 {
		s := string([]byte{byte(b)})
		out = append(out, s, s+s, s+"1", "1"+s, "1"+s+"2", " "+s+" ", "\n"+s+"\n", "-"+s)
	}
	return out
}

// linesAnew returns what D1 asks for, byte by byte.
func linesAnew(s string) []string {
	var out []string
	line := []byte{}
	for _, b := range []byte(s) {
		if b == 10 {
			out = append(out, string(line))
			line = line[:0]
		} else {
			line = append(line, b)
		}
	}
	if len(line) > 0 {
		out = append(out, string(line))
	}
	return out
}

func TestLines(t *testing.T) {
	all := append(texts(6, "\n", "a", " ", "\r", "é"), anyBytes()...)
	for _, s := range all {
		if got, want := Lines(s), linesAnew(s); !slices.Equal(got, want) {
			t.Errorf("D1: Lines(%q): %q, want %q", s, got, want)
		}
	}
}

func TestLinesAtTheEdges(t *testing.T) {
	for _, c := range []struct {
		s    string
		want []string
	}{
		{"", nil}, {"\n", []string{""}}, {"\n\n\n", []string{"", "", ""}},
		{"a", []string{"a"}}, {"a\n", []string{"a"}}, {"a\n\n", []string{"a", ""}}, {"\na", []string{"", "a"}},
		{"a\nb", []string{"a", "b"}}, {"a\nb\n", []string{"a", "b"}}, {"a\n\nb", []string{"a", "", "b"}},
		{" ", []string{" "}}, {" a \n b ", []string{" a ", " b "}}, {"a\n ", []string{"a", " "}},
		{"a\r\nb\r", []string{"a\r", "b\r"}}, {"a\vb\fc\u0085d\u2028e", []string{"a\vb\fc\u0085d\u2028e"}},
		{"\x00\n\xff\xfe\n\xc3\n", []string{"\x00", "\xff\xfe", "\xc3"}},
	} {
		if got := Lines(c.s); !slices.Equal(got, c.want) {
			t.Errorf("D1: Lines(%q): %q, want %q", c.s, got, c.want)
		}
	}
}

// wordsAnew returns what D2 asks for: it is a word whatever has no space inside,
// and a space or an end of s on both sides.
func wordsAnew(s string) []string {
	isEnd := func(i int) bool { return i < 0 || i == len(s) || s[i] == 32 }
	var out []string
	for from := range len(s) {
		for to := from + 1; to <= len(s); to++ {
			if isEnd(from-1) && isEnd(to) && !strings.Contains(s[from:to], " ") {
				out = append(out, s[from:to])
			}
		}
	}
	return out
}

func TestWords(t *testing.T) {
	all := append(texts(6, " ", "a", "\n", "\t", "é"), anyBytes()...)
	for _, s := range all {
		if got, want := Words(s), wordsAnew(s); !slices.Equal(got, want) {
			t.Errorf("D2: Words(%q): %q, want %q", s, got, want)
		}
	}
}

func TestWordsAtTheEdges(t *testing.T) {
	for _, c := range []struct {
		s    string
		want []string
	}{
		{"", nil}, {" ", nil}, {"     ", nil}, {"x", []string{"x"}}, {" x", []string{"x"}}, {"x ", []string{"x"}},
		{"x y", []string{"x", "y"}}, {" x  y ", []string{"x", "y"}}, {"   x    y   z   ", []string{"x", "y", "z"}},
		{"x\ty", []string{"x\ty"}}, {"\t \n \v \f \r", []string{"\t", "\n", "\v", "\f", "\r"}},
		{"a\u00a0b\u0085c\u3000d e\u2003f", []string{"a\u00a0b\u0085c\u3000d", "e\u2003f"}},
		{"\x00 \xff \xe2 \x80\xa0 #-+.", []string{"\x00", "\xff", "\xe2", "\x80\xa0", "#-+."}},
	} {
		if got := Words(c.s); !slices.Equal(got, c.want) {
			t.Errorf("D2: Words(%q): %q, want %q", c.s, got, c.want)
		}
	}
}

// form is the form that D3 asks for.
var form = regexp.MustCompile(`\A(0|-?[1-9][0-9]*)\z`)

// numberAnew returns what D3 asks for, with numbers of any size.
func numberAnew(s string) (int, api.Errno) {
	if !form.MatchString(s) {
		return 0, api.ErrNumber
	}
	n, _ := new(big.Int).SetString(s, 10)
	bound := new(big.Int).Exp(big.NewInt(10), big.NewInt(18), nil)
	if n.CmpAbs(bound) >= 0 {
		return 0, api.ErrOver
	}
	return int(n.Int64()), api.OK
}

// longTexts returns texts of 17 digits and more, with and without what is wrong
// at the first place, in the middle and at the last one.
func longTexts() []string {
	var out []string
	for _, length := range []int{17, 18, 19, 20, 21, 30, 200} {
		for _, digit := range []string{"1", "8", "9", "0"} {
			digits := strings.Repeat(digit, length)
			one := "1" + digits[1:]
			for _, s := range []string{digits, one, one[:length-1] + "7"} {
				out = append(out, s, "-"+s, "+"+s, "--"+s, " "+s, s+" ", "x"+s, s+"x", s+"-", "0"+s, "-0"+s, s+"\n",
					s[:length/2]+"-"+s[length/2:], s[:length/2]+"."+s[length/2:], s[:length/2]+"٣"+s[length/2:])
			}
		}
	}
	return out
}

func TestNumber(t *testing.T) {
	all := append(texts(6, "-", "+", "0", "1", "9", " ", "x"), anyBytes()...)
	all = append(all, longTexts()...)
	for _, s := range all {
		n, err := Number(s)
		if want, wantErr := numberAnew(s); n != want || err != wantErr {
			t.Errorf("D3: Number(%q): %d %d, want %d %d", s, n, err, want, wantErr)
		}
	}
}

func TestNumberAtTheEdges(t *testing.T) {
	for s, want := range map[string]int{
		"0": 0, "1": 1, "-1": -1, "9": 9, "10": 10, "-10": -10, "1234567890": 1234567890, "-9876543210": -9876543210,
		"100000000000000000": 100000000000000000, "-100000000000000000": -100000000000000000,
		"999999999999999999": longest, "-999999999999999999": -longest,
	} {
		if n, err := Number(s); n != want || err != api.OK {
			t.Errorf("D3: Number(%q): %d %d, want %d", s, n, err, want)
		}
	}
	for _, s := range []string{
		"", "-", "+", "--", "-0", "+0", "00", "-00", "01", "-01", "007", "-007", "+1", "1-", "1-2", "--1", "-+1", "+-1",
		" 1", "1 ", "- 1", "1 2", "1\n", "\n1", "1\x00", "0x1", "1e3", "1_0", "1.0", "1,0", "12x", "x12", "1x2", "/", ":",
		"/1", "1:", "١", "1٢", "１", "é", "1é", "\xff", "1\xff", "²", "−1", "000000000000000000000", "-000000000000000000000",
		"0999999999999999999", "-0999999999999999999", "+999999999999999999", "+9999999999999999999",
		"123456789012345678901234567890x", "x123456789012345678901234567890", "1234567890-12345678901234567890",
	} {
		if n, err := Number(s); n != 0 || err != api.ErrNumber {
			t.Errorf("D3: Number(%q): %d %d, want ErrNumber", s, n, err)
		}
	}
	for _, s := range []string{
		"1000000000000000000", "-1000000000000000000", "1234567890123456789", "-1234567890123456789",
		"9223372036854775807", "9223372036854775808", "-9223372036854775808", "-9223372036854775809",
		"18446744073709551616", "-18446744073709551616", "18446744073709551617",
		"1" + strings.Repeat("0", 1<<20), "-" + strings.Repeat("7", 1<<20),
	} {
		if n, err := Number(s); n != 0 || err != api.ErrOver {
			t.Errorf("D3: Number of %d bytes: %d %d, want ErrOver", len(s), n, err)
		}
	}
	if n, err := Number(strings.Repeat("7", 1<<20) + "x"); n != 0 || err != api.ErrNumber {
		t.Errorf("D3: digits before another byte: %d %d, want ErrNumber", n, err)
	}
}

// someNumbers returns the numbers around each power of ten and of two, the least
// and the greatest one, and others of all sizes.
func someNumbers() []int {
	out := []int{least, least + 1, most - 1, most}
	for _, base := range []int{2, 10} {
		for power := 1; power <= most/base; power *= base {
			for _, near := range []int{-1, 0, 1} {
				out = append(out, power+near, -power+near)
			}
		}
	}
	next := numbers(1)
	for i := range 2000 {
		out = append(out, next()>>(i%64))
	}
	return out
}

func TestText(t *testing.T) {
	for _, n := range someNumbers() {
		got := Text(n)
		if want := big.NewInt(int64(n)).String(); got != want {
			t.Errorf("D4: Text(%d): %q, want %q", n, got, want)
		}
	}
	for n, want := range map[int]string{0: "0", 7: "7", -7: "-7", 10: "10", -100: "-100", most: "9223372036854775807", least: "-9223372036854775808"} {
		if got := Text(n); got != want {
			t.Errorf("D4: Text(%d): %q, want %q", n, got, want)
		}
	}
}

func TestRow(t *testing.T) {
	for _, c := range []struct {
		word string
		l    []int
		want string
	}{
		{"end", nil, "end\n"}, {"end", []int{}, "end\n"}, {"", nil, "\n"}, {"", []int{0}, " 0\n"},
		{"arc", []int{0, -1}, "arc 0 -1\n"}, {"a b\n", []int{1}, "a b\n 1\n"}, {"\xff\x00é ", []int{-3}, "\xff\x00é  -3\n"},
		{"x", []int{least, most, 0, 5, 5}, "x -9223372036854775808 9223372036854775807 0 5 5\n"},
	} {
		if got := Row(c.word, c.l); got != c.want {
			t.Errorf("D5: Row(%q, %v): %q, want %q", c.word, c.l, got, c.want)
		}
	}
	all := someNumbers()
	want := "numbers"
	for _, n := range all {
		want += fmt.Sprintf(" %d", n)
	}
	if got := Row("numbers", all); got != want+"\n" {
		t.Errorf("D5: Row of %d numbers differs", len(all))
	}
}

func TestNumbers(t *testing.T) {
	for _, c := range []struct {
		l    []string
		want []int
		err  api.Errno
	}{
		{nil, nil, api.OK}, {[]string{}, nil, api.OK}, {[]string{"0"}, []int{0}, api.OK},
		{[]string{"1", "-2"}, []int{1, -2}, api.OK}, {[]string{"3", "1", "3", "0"}, []int{3, 1, 3, 0}, api.OK},
		{[]string{"999999999999999999", "-999999999999999999"}, []int{longest, -longest}, api.OK},
		{[]string{""}, nil, api.ErrNumber}, {[]string{"1 2"}, nil, api.ErrNumber},
		{[]string{"x", "1", "2"}, nil, api.ErrNumber}, {[]string{"1", "-0", "2"}, nil, api.ErrNumber}, {[]string{"1", "2", "07"}, nil, api.ErrNumber},
		{[]string{"1000000000000000000", "1", "2"}, nil, api.ErrOver}, {[]string{"1", "-1000000000000000000", "2"}, nil, api.ErrOver},
		{[]string{"1", "2", "1234567890123456789"}, nil, api.ErrOver},
		{[]string{"1", "x", "99999999999999999999"}, nil, api.ErrNumber}, {[]string{"1", "99999999999999999999", "x"}, nil, api.ErrOver},
		{[]string{"x", "99999999999999999999"}, nil, api.ErrNumber}, {[]string{"99999999999999999999", "x"}, nil, api.ErrOver},
	} {
		got, err := Numbers(c.l)
		if !slices.Equal(got, c.want) || err != c.err {
			t.Errorf("D6: Numbers(%q): %v %d, want %v %d", c.l, got, err, c.want, c.err)
		}
	}
}

func TestNumbersOfAllTexts(t *testing.T) {
	parts := []string{"5", "-6", "x", "", "1000000000000000000"}
	for i := range 5 * 5 * 5 * 5 {
		l := []string{parts[i%5], parts[i/5%5], parts[i/25%5], parts[i/125]}
		var want []int
		wantErr := api.OK
		for _, s := range l {
			n, err := numberAnew(s)
			if wantErr == api.OK {
				wantErr = err
			}
			want = append(want, n)
		}
		if wantErr != api.OK {
			want = nil
		}
		if got, err := Numbers(l); !slices.Equal(got, want) || err != wantErr {
			t.Errorf("D6: Numbers(%q): %v %d, want %v %d", l, got, err, want, wantErr)
		}
	}
}

// joinedBy returns lists of up to four of the parts.
func joinedBy(parts ...string) [][]string {
	out := [][]string{nil}
	last := out
	for range 4 {
		var longer [][]string
		for _, l := range last {
			for _, part := range parts {
				longer = append(longer, append(slices.Clone(l), part))
			}
		}
		out = append(out, longer...)
		last = longer
	}
	return out
}

func TestLinesUndoJoining(t *testing.T) {
	for _, l := range joinedBy("", "a", " b ", "\xff\r", "é\t") {
		whole := ""
		for _, line := range l {
			whole += line + "\n"
		}
		if got := Lines(whole); !slices.Equal(got, l) {
			t.Errorf("D7: Lines(%q): %q, want %q", whole, got, l)
		}
		if len(l) == 0 || l[len(l)-1] == "" {
			continue
		}
		if got := Lines(strings.Join(l, "\n")); !slices.Equal(got, l) {
			t.Errorf("D7: Lines of %q without the last byte 10: %q", l, got)
		}
	}
}

func TestWordsUndoJoining(t *testing.T) {
	for _, l := range joinedBy("a", "\n", "-\t", "\xff", "é") {
		for _, between := range []string{" ", "   "} {
			for _, around := range []string{"", " ", "  "} {
				whole := around + strings.Join(l, between) + around
				if got := Words(whole); !slices.Equal(got, l) {
					t.Errorf("D7: Words(%q): %q, want %q", whole, got, l)
				}
			}
		}
	}
}

func TestNumberUndoesText(t *testing.T) {
	for _, n := range someNumbers() {
		s := Text(n)
		got, err := Number(s)
		if n < -longest || n > longest {
			if got != 0 || err != api.ErrOver {
				t.Errorf("D3: Number(%q): %d %d, want ErrOver", s, got, err)
			}
		} else if got != n || err != api.OK {
			t.Errorf("D7: Number(Text(%d)): %d %d", n, got, err)
		}
	}
	for n := -20000; n <= 20000; n++ {
		if got, err := Number(Text(n)); got != n || err != api.OK {
			t.Errorf("D7: Number(Text(%d)): %d %d", n, got, err)
		}
	}
}

func TestRowIsReadBack(t *testing.T) {
	for _, l := range [][]int{nil, {0}, {5, -5, longest, -longest, 0}} {
		lines := Lines(Row("arc", l) + Row("end", nil))
		if len(lines) != 2 || lines[1] != "end" {
			t.Fatalf("D7: the lines of two rows: %q", lines)
		}
		words := Words(lines[0])
		got, err := Numbers(words[1:])
		if words[0] != "arc" || !slices.Equal(got, l) || err != api.OK {
			t.Errorf("D7: %v came back as %v %d", l, got, err)
		}
	}
}

func TestLongTexts(t *testing.T) {
	const n = 1 << 18
	rows := strings.Repeat(Row("arc", []int{1, -2}), n)
	lines := Lines(rows)
	if len(lines) != n || lines[0] != "arc 1 -2" || lines[n-1] != "arc 1 -2" {
		t.Errorf("D1: %d lines", len(lines))
	}
	words := Words(strings.Repeat("  12", n))
	if len(words) != n || words[0] != "12" || words[n-1] != "12" {
		t.Errorf("D2: %d words", len(words))
	}
	l, err := Numbers(words)
	if len(l) != n || l[0] != 12 || l[n-1] != 12 || err != api.OK {
		t.Errorf("D6: %d numbers, %d", len(l), err)
	}
	if got := Row("x", l); got != "x"+strings.Repeat(" 12", n)+"\n" {
		t.Errorf("D5: a row of %d bytes", len(got))
	}
}

func TestArgumentsStay(t *testing.T) {
	for _, l := range [][]string{{"1", "2", "3", "4"}, {"x", "1", "2"}, {"1", "x", "2"}, {"1", "2", "99999999999999999999", "x"}, {"1"}} {
		was := slices.Clone(l)
		Numbers(l[:len(l)-1])
		Numbers(l)
		if !slices.Equal(l, was) {
			t.Errorf("R3: Numbers: %q became %q", was, l)
		}
	}
	for _, l := range [][]int{{3, -1, 2, 0}, {least, most}, {7}} {
		was := slices.Clone(l)
		Row("x", l[:len(l)-1])
		Row("x", l)
		if !slices.Equal(l, was) {
			t.Errorf("R3: Row: %v became %v", was, l)
		}
	}
}

func TestResultsAreApart(t *testing.T) {
	const s = "a b\nc d\n"
	lines, words := Lines(s), Words(s)
	clear(lines)
	clear(words)
	if got := Lines(s); !slices.Equal(got, []string{"a b", "c d"}) {
		t.Errorf("R4: Lines(%q): %q", s, got)
	}
	if got := Words(s); !slices.Equal(got, []string{"a", "b\nc", "d\n"}) {
		t.Errorf("R4: Words(%q): %q", s, got)
	}
}

func TestPiecesMayBeLeft(t *testing.T) {
	all := pieces("a b c", space)
	for range 2 {
		var first []string
		for piece := range all {
			first = append(first, piece)
			if piece == "b" {
				break
			}
		}
		if !slices.Equal(first, []string{"a", "b"}) {
			t.Errorf("the pieces up to b: %q", first)
		}
	}
}

func TestExamples(t *testing.T) {
	if got := Lines("a\n\nb"); !slices.Equal(got, []string{"a", "", "b"}) {
		t.Errorf("Lines: %q", got)
	}
	if got := Words(" x  y "); !slices.Equal(got, []string{"x", "y"}) {
		t.Errorf("Words: %q", got)
	}
	for s, want := range map[string]api.Errno{"-0": api.ErrNumber, "007": api.ErrNumber, "1234567890123456789": api.ErrOver} {
		if n, err := Number(s); n != 0 || err != want {
			t.Errorf("Number(%q): %d %d", s, n, err)
		}
	}
	if got := Row("arc", []int{0, -1}); got != "arc 0 -1\n" {
		t.Errorf("Row: %q", got)
	}
}
