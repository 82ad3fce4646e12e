package tests

import (
	"math"
	"slices"
	"strings"
	"testing"

	"loop.example/g01248/impl"
)

// longLines has lines of MaxLine signs and of one less.
func longLines() []string {
	lines := []string{}
	for _, n := range []int{199, 200} {
		lines = append(lines,
			strings.Repeat("0", n), strings.Repeat("1", n), strings.Repeat("01", 100)[:n], strings.Repeat("10", 100)[:n], strings.Repeat("0", n-1)+"1", "1"+strings.Repeat("0", n-1),
			strings.Repeat("1110", 50)[:n], strings.Repeat("000111", 34)[:n], strings.Repeat("0", n/2)+strings.Repeat("1", n-n/2), strings.Repeat("1", 100)+strings.Repeat("0", n-150)+strings.Repeat("1", 50),
		)
	}
	return lines
}

// notLines has texts that are too long, or have a sign that is neither `1` nor `0`.
func notLines() []string {
	return []string{
		strings.Repeat("0", impl.MaxLine+1), strings.Repeat("1", impl.MaxLine+1), strings.Repeat("10", 500000), strings.Repeat("2", 100), strings.Repeat("1", 199) + "2",
		"2", "01x", "x01", "1x0", "/", ".", "-", " ", "1 0", " 1", "1 ", "0\n", "\x00", "\x01", "1\x00", "\xff", "0\xff1", "１", "é", "0é0", "O", "l", "+1", "-1", "1,0",
	}
}

// lineByHand writes the line of a signal by putting units in place of its signs and gaps.
func lineByHand(s string) string {
	words := strings.Split(s, "/")
	for w, word := range words {
		letters := strings.Split(word, " ")
		for k, letter := range letters {
			marks := strings.Split(letter, "")
			for i, mark := range marks {
				marks[i] = map[string]string{".": "1", "-": "111"}[mark]
			}
			letters[k] = strings.Join(marks, "0")
		}
		words[w] = strings.Join(letters, "000")
	}
	return strings.Join(words, "0000000")
}

// runsByHand cuts off one run after the other.
func runsByHand(l string) [][2]int {
	runs := [][2]int{}
	for l != "" {
		rest := strings.TrimLeft(l, l[:1])
		sign := 0
		if l[0] == '1' {
			sign = 1
		}
		runs = append(runs, [2]int{sign, len(l) - len(rest)})
		l = rest
	}
	return runs
}

// unitByHand tries all numbers, the greatest one first.
func unitByHand(l string) int {
	runs := runsByHand(l)
	for unit := impl.MaxLine; unit > 0; unit-- {
		divides, on := true, false
		for i, run := range runs {
			end := i == 0 || i == len(runs)-1
			divides = divides && (run[1]%unit == 0 || end && run[0] == 0)
			on = on || run[0] == 1
		}
		if divides && on {
			return unit
		}
	}
	return 0
}

// stretchByHand writes each sign k times.
func stretchByHand(l string, k int) string {
	return strings.NewReplacer("0", strings.Repeat("0", k), "1", strings.Repeat("1", k)).Replace(l)
}

// isOn reports whether a line is on at a place, and stays off before and behind it.
func isOn(l string, place int) bool { return place >= 0 && place < len(l) && l[place] == '1' }

// clashByHand counts the units that are on in both of two lines, the second one delayed by n.
func clashByHand(a, b string, n int) int {
	clash := 0
	for i := -1; i <= len(a)+len(b)+n; i++ {
		if isOn(a, i) && isOn(b, i-n) {
			clash++
		}
	}
	return clash
}

// signalsForLines has signals of one letter and of many, the longest ones of a time of 199.
func signalsForLines() []string {
	long := strings.TrimSuffix(strings.Repeat("----- ", 9), " ")
	return []string{
		"", ".", "-", ".....", "-----", ".-", "-.", ". .", "- -", "./.", "-/-", ". -", "-/.- .", "..-.-/.", "- - -", "-/-/-", "- -/-", "--", "--/--", "- --",
		strings.TrimSuffix(strings.Repeat(". ", 12), " "), "./././././.", "-/-/-/-/-/-", "./././././. .", long, long + " .", strings.TrimSuffix(strings.Repeat("----/", 6), "/"), strings.TrimSuffix(strings.Repeat("..... ", 12), " "),
	}
}

// notSignals has texts that are no signals.
func notSignals() []string {
	return []string{
		" ", "/", ". ", " .", ".  .", "./", "/.", ".//.", "......", "a", ".x", "1", "0", "10", "\xff", strings.TrimSuffix(strings.Repeat(". ", 13), " "), "././././././.", strings.Repeat(".", 100000),
	}
}

func TestIsLine(t *testing.T) {
	for _, l := range textsOf("01x", 7) {
		if impl.IsLine(l) != !strings.Contains(l, "x") {
			t.Fatalf("IsLine(%q) is %v", l, impl.IsLine(l))
		}
	}
	for _, l := range longLines() {
		if !impl.IsLine(l) {
			t.Errorf("IsLine of %d signs is false", len(l))
		}
	}
	for _, l := range notLines() {
		if impl.IsLine(l) {
			t.Errorf("IsLine(%.20q) is true", l)
		}
	}
}

func TestLinesOfAllSignalsAreReadAgain(t *testing.T) {
	// A signal of n signs has a time of at least 2 n - 1, so that all lines of at most 13 signs are here.
	signals := map[string]string{}
	for _, s := range append(textsOf(".- /", 7), signalsForLines()...) {
		if !impl.IsSignal(s) {
			if l, ok := impl.LineOf(s); ok || l != "" {
				t.Fatalf("LineOf(%q) = %q, %v", s, l, ok)
			}
			continue
		}
		want := lineByHand(s)
		l, ok := impl.LineOf(s)
		if len(want) > impl.MaxLine {
			t.Fatalf("the signal %q is too long for this test", s)
		}
		if !ok || l != want {
			t.Fatalf("LineOf(%q) = %q, %v", s, l, ok)
		}
		if time, ok := impl.TimeOfSignal(s); !ok || time != len(l) {
			t.Fatalf("LineOf(%q) has %d signs", s, len(l))
		}
		if back, ok := impl.SignalOf(l); !ok || back != s {
			t.Fatalf("SignalOf(%q) = %q, %v", l, back, ok)
		}
		signals[l] = s
	}
	for _, l := range textsOf("01", 13) {
		want, is := signals[l]
		if s, ok := impl.SignalOf(l); ok != is || s != want {
			t.Fatalf("SignalOf(%q) = %q, %v", l, s, ok)
		}
	}
}

func TestLineOfFailsForLongTimes(t *testing.T) {
	// All marks and gaps have odd times, and there is one gap less than marks: no time is 200.
	nine := strings.TrimSuffix(strings.Repeat("----- ", 9), " ")
	if l, ok := impl.LineOf(nine + " ."); !ok || len(l) != 199 {
		t.Errorf("LineOf of a time of 199 = %d signs, %v", len(l), ok)
	}
	all := strings.TrimSuffix(strings.Repeat("----- ", 12), " ")
	for _, s := range []string{nine + " -", nine + " ..", nine + "/.", nine + " . .", all, "-----/-----/-----/-----/-----/-----", "...../-----/-----/-----/-----/-----", "..... ----- ----- ----- ----- ----- ----- ----- ----- ----- ----- -----"} {
		time, _ := impl.TimeOfSignal(s)
		l, ok := impl.LineOf(s)
		if ok != (time <= impl.MaxLine) || len(l) != len(lineByHand(s)) && ok || l != "" && !ok {
			t.Errorf("LineOf of a time of %d = %d signs, %v", time, len(l), ok)
		}
	}
	if time, _ := impl.TimeOfSignal(nine + " -"); time != impl.MaxLine+1 {
		t.Errorf("the time is %d", time)
	}
}

func TestLineOfAndSignalOfFail(t *testing.T) {
	for _, s := range notSignals() {
		if l, ok := impl.LineOf(s); ok || l != "" {
			t.Errorf("LineOf(%.20q) = %q, %v", s, l, ok)
		}
	}
	thirteen := strings.TrimSuffix(strings.Repeat("1000", 13), "000")
	words := strings.TrimSuffix(strings.Repeat("10000000", 7), "0000000")
	for _, l := range append(notLines(), longLines()...) {
		if s, ok := impl.SignalOf(l); ok || s != "" {
			t.Errorf("SignalOf(%.20q) = %q, %v", l, s, ok)
		}
	}
	for _, l := range []string{
		"0", "00", "000", "0000000", "01", "10", "010", "0001", "1000", "00000001", "10000000", "11", "1111", "11111", "1001", "100001", "1000001", "100000000001", "11011", "10101010101", "11101110111011101110111",
		"10000001", "1000000001", "1111001", "110110", thirteen, words, words[:len(words)-8] + "00010001", "1.0", "101 ",
	} {
		if s, ok := impl.SignalOf(l); ok || s != "" {
			t.Errorf("SignalOf(%q) = %q, %v", l, s, ok)
		}
	}
	for _, l := range []string{thirteen[4:], words[8:], words[8:] + "0001"} {
		if s, ok := impl.SignalOf(l); !ok || lineByHand(s) != l {
			t.Errorf("SignalOf(%q) = %q, %v", l, s, ok)
		}
	}
}

func TestRunsOfAndLineOfRunsUndoEachOther(t *testing.T) {
	for _, l := range append(textsOf("01", 10), longLines()...) {
		runs, ok := impl.RunsOf(l)
		if !ok || !slices.Equal(runs, runsByHand(l)) {
			t.Fatalf("RunsOf(%q) = %v, %v", l, runs, ok)
		}
		kept := slices.Clone(runs)
		if back, ok := impl.LineOfRuns(runs); !ok || back != l {
			t.Fatalf("LineOfRuns(%v) = %q, %v", runs, back, ok)
		}
		if !slices.Equal(runs, kept) {
			t.Fatalf("LineOfRuns has modified %v", kept)
		}
	}
	if runs, ok := impl.RunsOf("0011101"); !ok || !slices.Equal(runs, [][2]int{{0, 2}, {1, 3}, {0, 1}, {1, 1}}) {
		t.Errorf("RunsOf = %v, %v", runs, ok)
	}
	for _, l := range notLines() {
		if runs, ok := impl.RunsOf(l); ok || len(runs) != 0 {
			t.Errorf("RunsOf(%.20q) = %v, %v", l, runs, ok)
		}
	}
	runs, _ := impl.RunsOf("101")
	runs[0] = [2]int{7, 7}
	if again, _ := impl.RunsOf("101"); !slices.Equal(again, runsByHand("101")) {
		t.Errorf("RunsOf = %v after a change of its result", again)
	}
}

// runLists returns all lists of at most n runs of some signs and lengths.
func runLists(n int) [][][2]int {
	lists := [][][2]int{{}}
	longest := lists
	for range n {
		longer := [][][2]int{}
		for _, list := range longest {
			for _, sign := range []int{-1, 0, 1, 2} {
				for _, length := range []int{-1, 0, 1, 2, 200} {
					longer = append(longer, append(slices.Clone(list), [2]int{sign, length}))
				}
			}
		}
		lists = append(lists, longer...)
		longest = longer
	}
	return lists
}

func TestLineOfRunsRefusesOtherRuns(t *testing.T) {
	for _, runs := range runLists(3) {
		l, is, before := "", true, -9
		for _, run := range runs {
			if run[0] < 0 || run[0] > 1 || run[0] == before || run[1] < 1 || len(l) > 200 {
				is = false
				break
			}
			l += strings.Repeat([]string{"0", "1"}[run[0]], run[1])
			before = run[0]
		}
		if len(l) > 200 || !is {
			l, is = "", false
		}
		if got, ok := impl.LineOfRuns(runs); ok != is || got != l {
			t.Fatalf("LineOfRuns(%v) = %q, %v", runs, got, ok)
		}
	}
	for _, runs := range [][][2]int{
		{{0, 201}}, {{1, 201}}, {{1, 100}, {0, 101}}, {{0, 199}, {1, 1}, {0, 1}}, {{1, math.MaxInt}}, {{0, math.MaxInt - 1}}, {{1, 200}, {0, math.MaxInt}}, {{1, 1}, {0, math.MaxInt}},
		{{0, 2}, {1, math.MaxInt - 1}}, {{1, 199}, {0, math.MaxInt - 198}}, {{1, math.MaxInt}, {0, math.MaxInt}, {1, 4}}, {{1, math.MinInt}}, {{1, 1}, {0, math.MinInt}}, {{1, math.MaxInt}, {0, math.MinInt}}, {{1, 5}, {0, -2}},
		{{math.MaxInt, 1}}, {{math.MinInt, 1}}, {{256, 1}}, {{'1', 1}}, {{'0', 1}}, {{1, 1}, {1, 1}}, {{1, 1}, {0, 1}, {0, 1}}, {{1 << 32, 1}}, make([][2]int, 100000),
	} {
		if l, ok := impl.LineOfRuns(runs); ok || l != "" {
			t.Errorf("LineOfRuns(%.3v..) = %q, %v", runs[:1], l, ok)
		}
	}
	for _, runs := range [][][2]int{nil, {}} {
		if l, ok := impl.LineOfRuns(runs); !ok || l != "" {
			t.Errorf("LineOfRuns(%v) = %q, %v", runs, l, ok)
		}
	}
	if l, ok := impl.LineOfRuns([][2]int{{0, 199}, {1, 1}}); !ok || l != strings.Repeat("0", 199)+"1" {
		t.Errorf("LineOfRuns of 200 signs = %q, %v", l, ok)
	}
}

func TestCountOn(t *testing.T) {
	for _, l := range append(textsOf("01", 8), longLines()...) {
		if on, ok := impl.CountOn(l); !ok || on != len(strings.ReplaceAll(l, "0", "")) {
			t.Errorf("CountOn(%q) = %d, %v", l, on, ok)
		}
	}
	for _, l := range notLines() {
		if on, ok := impl.CountOn(l); ok || on != 0 {
			t.Errorf("CountOn(%.20q) = %d, %v", l, on, ok)
		}
	}
}

func TestDelayLine(t *testing.T) {
	for _, l := range append(textsOf("01", 6), longLines()...) {
		left := impl.MaxLine - len(l)
		for _, n := range []int{0, 1, 2, left - 1, left} {
			if n < 0 || n > left {
				continue
			}
			if late, ok := impl.DelayLine(l, n); !ok || late != strings.Repeat("0", n)+l {
				t.Fatalf("DelayLine(%q, %d) = %q, %v", l, n, late, ok)
			}
		}
		for _, n := range []int{-1, -2, left + 1, left + 2, 201, math.MaxInt, math.MaxInt - 1, math.MinInt, math.MinInt + 1, -left - 1, 1 << 32} {
			if late, ok := impl.DelayLine(l, n); ok || late != "" {
				t.Fatalf("DelayLine(%q, %d) = %q, %v", l, n, late, ok)
			}
		}
	}
	for _, l := range notLines() {
		for _, n := range []int{-1, 0, 1} {
			if late, ok := impl.DelayLine(l, n); ok || late != "" {
				t.Errorf("DelayLine(%.20q, %d) = %q, %v", l, n, late, ok)
			}
		}
	}
}

// linesOverEachOther checks all functions of two lines.
func linesOverEachOther(t *testing.T, a, b string) {
	joined := ""
	for i := range max(len(a), len(b)) {
		joined += map[bool]string{true: "1", false: "0"}[isOn(a, i) || isOn(b, i)]
	}
	if got, ok := impl.JoinLines(a, b); !ok || got != joined {
		t.Fatalf("JoinLines(%q, %q) = %q, %v", a, b, got, ok)
	}
	if clash, ok := impl.ClashOf(a, b); !ok || clash != clashByHand(a, b, 0) {
		t.Fatalf("ClashOf(%q, %q) = %d, %v", a, b, clash, ok)
	}
	n, ok := impl.LeastDelay(a, b)
	if !ok || n < 0 || clashByHand(a, b, n) != 0 {
		t.Fatalf("LeastDelay(%q, %q) = %d, %v", a, b, n, ok)
	}
	for less := range n {
		if clashByHand(a, b, less) == 0 {
			t.Fatalf("LeastDelay(%q, %q) = %d, but %d would do", a, b, n, less)
		}
	}
	if late, ok := impl.DelayLine(b, n); ok {
		if clash, ok := impl.ClashOf(a, late); !ok || clash != 0 {
			t.Fatalf("ClashOf(%q, %q) = %d, %v", a, late, clash, ok)
		}
	}
}

func TestLinesOverEachOther(t *testing.T) {
	for _, a := range textsOf("01", 6) {
		for _, b := range textsOf("01", 6) {
			linesOverEachOther(t, a, b)
		}
	}
	more := append(longLines(), "", "0", "1", "0001", "1010101", "1110001", strings.Repeat("110", 50), strings.Repeat("0", 150)+"11")
	for _, a := range more {
		for _, b := range more {
			linesOverEachOther(t, a, b)
		}
	}
}

func TestLeastDelayMayMakeTheLineTooLong(t *testing.T) {
	on, off := strings.Repeat("1", 200), strings.Repeat("0", 200)
	for _, x := range []struct {
		a, b string
		n    int
	}{{on, on, 200}, {on, "1", 200}, {on, "01", 199}, {"1", on, 1}, {on, off[:199] + "1", 1}, {on, off, 0}, {off, on, 0}, {"", on, 0}, {on, "", 0}, {"101", "1", 1}, {"1011", "101", 4}, {"101", "11", 3}, {on[:150], on[:51], 150}} {
		if n, ok := impl.LeastDelay(x.a, x.b); !ok || n != x.n {
			t.Errorf("LeastDelay(%q, %q) = %d, %v", x.a, x.b, n, ok)
		}
	}
}

func TestFunctionsOfTwoLinesFail(t *testing.T) {
	for _, none := range notLines() {
		for _, other := range []string{"", "1", "010", none} {
			for _, pair := range [][2]string{{none, other}, {other, none}} {
				if l, ok := impl.JoinLines(pair[0], pair[1]); ok || l != "" {
					t.Errorf("JoinLines(%.20q, %.20q) = %q, %v", pair[0], pair[1], l, ok)
				}
				if n, ok := impl.ClashOf(pair[0], pair[1]); ok || n != 0 {
					t.Errorf("ClashOf(%.20q, %.20q) = %d, %v", pair[0], pair[1], n, ok)
				}
				if n, ok := impl.LeastDelay(pair[0], pair[1]); ok || n != 0 {
					t.Errorf("LeastDelay(%.20q, %.20q) = %d, %v", pair[0], pair[1], n, ok)
				}
			}
		}
	}
}

func TestStretchLine(t *testing.T) {
	more := append(longLines(), strings.Repeat("10", 50), strings.Repeat("10", 50)+"1", strings.Repeat("01", 11), strings.Repeat("01", 11)+"0", strings.Repeat("1", 25), strings.Repeat("0", 26), strings.Repeat("10", 20), strings.Repeat("110", 22))
	for _, l := range append(textsOf("01", 8), more...) {
		for k := -2; k <= 12; k++ {
			is := k >= 1 && k <= 9 && len(l)*k <= 200
			want := ""
			if is {
				want = stretchByHand(l, k)
			}
			if long, ok := impl.StretchLine(l, k); ok != is || long != want {
				t.Fatalf("StretchLine(%q, %d) = %q, %v", l, k, long, ok)
			}
			if !is {
				continue
			}
			unit, _ := impl.UnitOf(l)
			if long, ok := impl.UnitOf(want); !ok || long != k*unit {
				t.Fatalf("UnitOf(%q) = %d, %v", want, long, ok)
			}
		}
		for _, k := range []int{math.MaxInt, math.MinInt, math.MaxInt / 2, 1 << 62, 1 << 61, 1 << 32} {
			if long, ok := impl.StretchLine(l, k); ok || long != "" {
				t.Fatalf("StretchLine(%q, %d) = %q, %v", l, k, long, ok)
			}
		}
	}
	for _, l := range notLines() {
		for _, k := range []int{0, 1, 9} {
			if long, ok := impl.StretchLine(l, k); ok || long != "" {
				t.Errorf("StretchLine(%.20q, %d) = %q, %v", l, k, long, ok)
			}
		}
	}
}

func TestUnitOfAndPlainLine(t *testing.T) {
	more := append(longLines(), "1111001111", "111111000111", "1110011", "0000011110011", "00110011000", "0111111", "1111110", strings.Repeat("1", 91)+strings.Repeat("0", 39)+strings.Repeat("1", 65), "0"+strings.Repeat("1", 84)+strings.Repeat("0", 36)+strings.Repeat("1", 60))
	for _, l := range append(textsOf("01", 12), more...) {
		unit, ok := impl.UnitOf(l)
		if !ok || unit != unitByHand(l) {
			t.Fatalf("UnitOf(%q) = %d, %v", l, unit, ok)
		}
		plain, ok := impl.PlainLine(l)
		if !ok || stretchByHand(plain, unit) != strings.TrimRight(strings.TrimLeft(l, "0"), "0") {
			t.Fatalf("PlainLine(%q) = %q, %v", l, plain, ok)
		}
		if !strings.Contains(l, "1") && plain != "" || plain != "" && unitByHand(plain) != 1 {
			t.Fatalf("PlainLine(%q) = %q", l, plain)
		}
	}
	for _, x := range []struct {
		l, plain string
		unit     int
	}{{"", "", 0}, {"0", "", 0}, {"000", "", 0}, {"1", "1", 1}, {"11", "1", 2}, {"0110011", "101", 2}, {"011110", "1", 4}, {"0001111001100", "1101", 2}, {"1111001111", "11011", 2}, {"1110111", "1110111", 1}, {"0111", "1", 3}, {"1110", "1", 3}} {
		unit, one := impl.UnitOf(x.l)
		plain, two := impl.PlainLine(x.l)
		if !one || !two || unit != x.unit || plain != x.plain {
			t.Errorf("UnitOf and PlainLine of %q = %d, %q, %v, %v", x.l, unit, plain, one, two)
		}
	}
	for _, l := range notLines() {
		if unit, ok := impl.UnitOf(l); ok || unit != 0 {
			t.Errorf("UnitOf(%.20q) = %d, %v", l, unit, ok)
		}
		if plain, ok := impl.PlainLine(l); ok || plain != "" {
			t.Errorf("PlainLine(%.20q) = %q, %v", l, plain, ok)
		}
		if s, ok := impl.ReadLine(l); ok || s != "" {
			t.Errorf("ReadLine(%.20q) = %q, %v", l, s, ok)
		}
	}
}

// showsItsUnit reports whether a signal has a dot or a letter of at least two marks.
func showsItsUnit(s string) bool {
	return strings.Contains(s, ".") || strings.Contains(s, "--")
}

func TestLinesAreReadAgainWhenStretchedAndDelayed(t *testing.T) {
	for _, s := range append(textsOf(".- /", 6), signalsForLines()...) {
		if !impl.IsSignal(s) || !showsItsUnit(s) {
			continue
		}
		for k := 1; k <= 9; k++ {
			long := stretchByHand(lineByHand(s), k)
			for _, n := range []int{0, 1, 2, 7, impl.MaxLine - len(long)} {
				if n < 0 || len(long)+n > impl.MaxLine {
					continue
				}
				for _, behind := range []string{"", "0", "00000"} {
					late := strings.Repeat("0", n) + long + behind
					if len(late) > impl.MaxLine {
						continue
					}
					if got, ok := impl.ReadLine(late); !ok || got != s {
						t.Fatalf("ReadLine(%q) = %q, %v, not %q", late, got, ok, s)
					}
				}
			}
		}
	}
}

func TestReadLineTakesThePlainLine(t *testing.T) {
	for l, want := range map[string]string{
		"": "", "0": "", "000000": "", strings.Repeat("0", 200): "", "111": ".", "000111": ".", "111000111": "..", "11100000001110": "-/-", "111111": ".", "0110011": "..", "1": ".", strings.Repeat("1", 200): ".",
		"110000001111110": ". -", "111000111000111": "...",
	} {
		if s, ok := impl.ReadLine(l); !ok || s != want {
			t.Errorf("ReadLine(%q) = %q, %v", l, s, ok)
		}
	}
	for _, l := range []string{"1001", "11011", "110000110011", "10101010101", "0101001", "11110011", "111100110", "100000000001"} {
		if s, ok := impl.ReadLine(l); ok || s != "" {
			t.Errorf("ReadLine(%q) = %q, %v", l, s, ok)
		}
	}
	for _, l := range textsOf("01", 13) {
		plain, one := impl.PlainLine(l)
		want, is := impl.SignalOf(plain)
		if s, ok := impl.ReadLine(l); !one || ok != is || s != want {
			t.Fatalf("ReadLine(%q) = %q, %v", l, s, ok)
		}
	}
}

func TestOnAtOnce(t *testing.T) {
	texts := textsOf("01", 3)
	lists := [][]string{nil, {}, {""}, {"", "", ""}, {"1"}, {"0"}, longLines()[:8], longLines()[8:16], {"1", "1", "1", "1", "1", "1", "1", "01"}, {"", "0000", "11"}}
	for _, a := range texts {
		for _, b := range texts {
			for _, c := range texts {
				lists = append(lists, []string{a, b, c})
			}
		}
	}
	for _, lines := range lists {
		kept := slices.Clone(lines)
		want := []int{}
		for _, l := range lines {
			for i := range len(l) {
				if i == len(want) {
					want = append(want, 0)
				}
				if l[i] == '1' {
					want[i]++
				}
			}
		}
		count, ok := impl.OnAtOnce(lines)
		if !ok || !slices.Equal(count, want) {
			t.Fatalf("OnAtOnce(%q) = %v, %v", lines, count, ok)
		}
		if !slices.Equal(lines, kept) {
			t.Fatalf("OnAtOnce has modified %q", kept)
		}
	}
}

func TestOnAtOnceFails(t *testing.T) {
	nine := strings.Split("1,0,1,0,1,0,1,0,1", ",")
	for _, lines := range [][]string{nine, make([]string, 9), make([]string, 100000), append(nine, "x")} {
		if count, ok := impl.OnAtOnce(lines); ok || len(count) != 0 {
			t.Errorf("OnAtOnce of %d lines = %v, %v", len(lines), count, ok)
		}
	}
	for _, none := range notLines() {
		for _, lines := range [][]string{{none}, {"1", none}, {none, "1"}, {"1", "0", "", "1", "1", "1", "1", none}} {
			if count, ok := impl.OnAtOnce(lines); ok || len(count) != 0 {
				t.Errorf("OnAtOnce with %.20q = %v, %v", none, count, ok)
			}
		}
	}
}
