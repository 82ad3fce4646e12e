package tests

import (
	"math"
	"slices"
	"strings"
	"testing"

	"loop.example/g01248/impl"
)

// repeated has n lengths, which are some lengths again and again.
func repeated(n int, lengths ...int) []int {
	trace := []int{}
	for i := range n {
		trace = append(trace, lengths[i%len(lengths)])
	}
	return trace
}

// shortTraces has all traces of 1 and 3 lengths out of some, and those of 5 lengths out of fewer.
func shortTraces() [][]int {
	traces := [][]int{}
	some := []int{1, 2, 3, 4, 5, 6, 7, 10, 15, 19, 20, 21, 30, 49, 50, 51, 70, 99, 197, 198, 199, 494, 495, 693, 998, 999}
	few := []int{1, 2, 5, 10, 70, 999}
	for _, a := range some {
		traces = append(traces, []int{a})
		for _, b := range some {
			for _, c := range few {
				traces = append(traces, []int{a, b, c})
			}
		}
	}
	for _, a := range few {
		for _, b := range few {
			for _, c := range few {
				for _, d := range few {
					traces = append(traces, []int{a, b, c, d, 5}, []int{3, b, a, d, c})
				}
			}
		}
	}
	return traces
}

// longTraces has traces of up to MaxTrace lengths, some of which are read as signals and some as
// none, whatever the unit is.
func longTraces() [][]int {
	traces := [][]int{
		repeated(143, 1), repeated(143, 999), repeated(143, 1, 999), repeated(143, 999, 1), repeated(143, 10, 30), repeated(141, 30, 10), repeated(143, 5, 12, 7, 3, 40, 11),
		repeated(11, 10), repeated(9, 10), repeated(23, 10, 30), repeated(25, 10, 30), repeated(11, 30, 70), repeated(13, 30, 70), repeated(119, 30, 10, 30, 10, 30, 10, 30, 10, 30, 30), repeated(119, 10, 10, 10, 10, 10, 10, 10, 10, 10, 30),
	}
	// A key that drifts: these numbers follow no rule that the lengths follow.
	state := 7
	for range 60 {
		trace := []int{}
		n := 1 + 2*(len(traces)%40)
		for len(trace) < n {
			state = (state*1103 + 12345) % 100003
			exact := []int{1, 1, 3, 3, 7}[state%5] * (4 + len(traces)%30)
			trace = append(trace, 1+exact*(70+state%61)/100)
		}
		traces = append(traces, trace)
	}
	return traces
}

// notTraces has lists that are no traces.
func notTraces() [][]int {
	lists := [][]int{
		nil, {}, {1, 1}, {10, 10}, {1, 2, 3, 4}, repeated(142, 5), repeated(144, 5), repeated(145, 5), repeated(147, 1, 999), make([]int, 1), make([]int, 3), make([]int, 143), make([]int, 1000001), repeated(100001, 7),
	}
	for _, other := range otherLengths() {
		lists = append(lists, []int{other}, []int{other, 5, 5}, []int{5, other, 5}, []int{5, 5, other}, append(repeated(142, 5), other), append([]int{other}, repeated(142, 5)...), []int{5, other})
	}
	return lists
}

func otherLengths() []int {
	return []int{0, -1, -999, impl.MaxLength + 1, impl.MaxLength + 2, math.MaxInt, math.MinInt, 1 << 32, 1<<32 + 5}
}

func otherUnits() []int {
	return []int{0, -1, -99, impl.MaxUnit + 1, impl.MaxUnit + 2, math.MaxInt, math.MinInt, 1 << 32, 1<<32 + 5}
}

// readByHand returns what a trace is read as, be it a signal or not, and what is read for each
// length, as the number of units.
func readByHand(trace []int, unit int) (string, []int) {
	s, times := "", []int{}
	for i, length := range trace {
		signs, steps := []string{".", "-"}, []int{1, 3}
		if i%2 == 1 {
			signs, steps = []string{"", " ", "/"}, []int{1, 3, 7}
		}
		kind := 0
		if length >= 2*unit {
			kind++
		}
		if i%2 == 1 && length >= 5*unit {
			kind++
		}
		s += signs[kind]
		times = append(times, steps[kind])
	}
	return s, times
}

func driftByHand(trace []int, unit int) int {
	_, times := readByHand(trace, unit)
	drift := 0
	for i, length := range trace {
		if length > times[i]*unit {
			drift += length - times[i]*unit
		} else {
			drift += times[i]*unit - length
		}
	}
	return drift
}

// traceByHand takes the lengths from the line of a signal.
func traceByHand(s string, unit int) []int {
	trace := []int{}
	for _, run := range runsByHand(lineByHand(s)) {
		trace = append(trace, run[1]*unit)
	}
	return trace
}

// drawn writes a trace as a line, which may be longer than MaxLine.
func drawn(trace []int) string {
	l := ""
	for i, length := range trace {
		l += strings.Repeat([]string{"1", "0"}[i%2], length)
	}
	return l
}

// traceOfDrawn reads a line as a trace, and fails if it is none.
func traceOfDrawn(l string) ([]int, bool) {
	trace := []int{}
	for _, run := range runsByHand(strings.Trim(l, "0")) {
		if run[1] > 999 {
			return nil, false
		}
		trace = append(trace, run[1])
	}
	return trace, len(trace) > 0
}

// redrawn turns all runs of a sign in a line that are shorter than least.
func redrawn(l string, sign, least int) string {
	turned := ""
	for _, run := range runsByHand(l) {
		if run[0] == sign && run[1] < least {
			run[0] = 1 - sign
		}
		turned += strings.Repeat([]string{"0", "1"}[run[0]], run[1])
	}
	return turned
}

func TestIsTrace(t *testing.T) {
	for _, trace := range append(shortTraces(), longTraces()...) {
		if !impl.IsTrace(trace) {
			t.Errorf("IsTrace(%v) is false", trace)
		}
	}
	for n := range 300 {
		if impl.IsTrace(repeated(n, 1, 999)) != (n%2 == 1 && n <= 143) {
			t.Errorf("IsTrace of %d lengths is %v", n, n%2 == 0 || n > 143)
		}
	}
	for _, list := range notTraces() {
		if impl.IsTrace(list) {
			t.Errorf("IsTrace of %d lengths, %.5v.., is true", len(list), list[:min(len(list), 3)])
		}
	}
}

// checkUnits checks all functions that read a trace with all units.
func checkUnits(t *testing.T, trace []int) {
	t.Helper()
	signals, best, least := []string{}, 0, math.MaxInt
	unitsFor := map[string][]int{}
	for unit := 1; unit <= 99; unit++ {
		want, _ := readByHand(trace, unit)
		is := isSignalByHand(want)
		if !is {
			want = ""
		} else {
			if len(unitsFor[want]) == 0 {
				signals = append(signals, want)
			}
			unitsFor[want] = append(unitsFor[want], unit)
		}
		if s, ok := impl.ReadTrace(trace, unit); ok != is || s != want {
			t.Fatalf("ReadTrace(%v, %d) = %q, %v, not %q", trace, unit, s, ok, want)
		}
		drift := driftByHand(trace, unit)
		if got, ok := impl.DriftOf(trace, unit); !ok || got != drift {
			t.Fatalf("DriftOf(%v, %d) = %d, %v, not %d", trace, unit, got, ok, drift)
		}
		if drift < least {
			best, least = unit, drift
		}
	}
	if unit, drift, ok := impl.BestUnit(trace); !ok || unit != best || drift != least {
		t.Fatalf("BestUnit(%v) = %d, %d, %v, not %d, %d", trace, unit, drift, ok, best, least)
	}
	if got, ok := impl.SignalsOf(trace); !ok || !slices.Equal(got, signals) {
		t.Fatalf("SignalsOf(%v) = %q, %v, not %q", trace, got, ok, signals)
	}
	for _, s := range append(signals, "", ".", "-", ".-", "-/-", ". .", ".....") {
		units, ok := impl.UnitsFor(trace, s)
		if !ok || !slices.Equal(units, unitsFor[s]) {
			t.Fatalf("UnitsFor(%v, %q) = %v, %v, not %v", trace, s, units, ok, unitsFor[s])
		}
		if len(units) > 0 && units[len(units)-1]-units[0] != len(units)-1 {
			t.Fatalf("UnitsFor(%v, %q) = %v are not one behind the other", trace, s, units)
		}
	}
}

func TestTracesAreReadAsByHand(t *testing.T) {
	for _, trace := range append(shortTraces(), longTraces()...) {
		kept := slices.Clone(trace)
		checkUnits(t, trace)
		if !slices.Equal(trace, kept) {
			t.Fatalf("%v has been modified", kept)
		}
	}
}

func TestLengthsAtTheBoundsOfTwoReadings(t *testing.T) {
	for unit := 1; unit <= 99; unit++ {
		for _, x := range []struct {
			trace []int
			s     string
		}{
			{[]int{1}, "."}, {[]int{2*unit - 1}, "."}, {[]int{2 * unit}, "-"}, {[]int{2*unit + 1}, "-"}, {[]int{999}, "-"},
			{[]int{unit, 1, unit}, ".."}, {[]int{unit, 2*unit - 1, unit}, ".."}, {[]int{unit, 2 * unit, unit}, ". ."}, {[]int{unit, 5*unit - 1, unit}, ". ."},
			{[]int{unit, 5 * unit, unit}, "./."}, {[]int{unit, 999, unit}, "./."}, {[]int{5 * unit, unit, 5*unit - 1}, "--"},
		} {
			if s, ok := impl.ReadTrace(x.trace, unit); !ok || s != x.s {
				t.Errorf("ReadTrace(%v, %d) = %q, %v, not %q", x.trace, unit, s, ok, x.s)
			}
		}
	}
}

func TestTracesThatAreReadAsNoSignal(t *testing.T) {
	for _, trace := range [][]int{repeated(11, 10), repeated(25, 10, 30), repeated(13, 30, 70), repeated(143, 10), repeated(143, 999), repeated(143, 10, 100), append(repeated(23, 10, 30), 70, 10)} {
		if s, ok := impl.ReadTrace(trace, 10); ok || s != "" {
			t.Errorf("ReadTrace(%v, 10) = %q, %v", trace, s, ok)
		}
		if drift, ok := impl.DriftOf(trace, 10); !ok || drift != driftByHand(trace, 10) {
			t.Errorf("DriftOf(%v, 10) = %d, %v", trace, drift, ok)
		}
		if _, _, ok := impl.BestUnit(trace); !ok {
			t.Errorf("BestUnit(%v) fails", trace)
		}
	}
	// A trace that no unit makes a signal is valid nevertheless.
	for _, trace := range [][]int{repeated(143, 10), repeated(25, 10)} {
		if signals, ok := impl.SignalsOf(trace); !ok || len(signals) != 0 {
			t.Errorf("SignalsOf(%v) = %q, %v", trace, signals, ok)
		}
		for _, s := range []string{"", ".", "....."} {
			if units, ok := impl.UnitsFor(trace, s); !ok || len(units) != 0 {
				t.Errorf("UnitsFor(%v, %q) = %v, %v", trace, s, units, ok)
			}
		}
	}
	if s, ok := impl.ReadTrace(repeated(23, 10, 30), 10); !ok || s != ". . . . . . . . . . . ." {
		t.Errorf("ReadTrace of 12 letters = %q, %v", s, ok)
	}
}

func TestUnitsThatAreWrittenOut(t *testing.T) {
	for _, x := range []struct {
		trace       []int
		best, least int
		signals     []string
	}{
		{[]int{1}, 1, 0, []string{"."}}, {[]int{10}, 10, 0, []string{"-", "."}}, {[]int{9}, 3, 0, []string{"-", "."}}, {[]int{999}, 99, 702, []string{"-"}}, {[]int{197}, 66, 1, []string{"-", "."}},
		{[]int{198}, 66, 0, []string{"-"}}, {[]int{2}, 2, 0, []string{"-", "."}}, {[]int{4}, 4, 0, []string{"-", "."}}, {[]int{10, 70, 30}, 10, 0, []string{"-/-", "./-", ". -", ". .", ".."}}, {[]int{10, 10, 10}, 10, 0, []string{"-/-", "- -", ".."}},
	} {
		checkUnits(t, x.trace)
		best, least, ok := impl.BestUnit(x.trace)
		signals, also := impl.SignalsOf(x.trace)
		if !ok || !also || best != x.best || least != x.least || !slices.Equal(signals, x.signals) {
			t.Errorf("BestUnit and SignalsOf(%v) = %d, %d, %v, %q", x.trace, best, least, ok, signals)
		}
	}
}

func TestTraceOfIsReadAsItsSignal(t *testing.T) {
	for _, s := range append(textsOf(".- /", 6), signalsForLines()...) {
		for _, unit := range []int{1, 2, 10, 17, 98, 99} {
			want := []int{}
			if impl.IsSignal(s) && s != "" {
				want = traceByHand(s, unit)
			}
			trace, ok := impl.TraceOf(s, unit)
			if ok != (len(want) > 0) || !slices.Equal(trace, want) {
				t.Fatalf("TraceOf(%q, %d) = %v, %v", s, unit, trace, ok)
			}
			if !ok {
				continue
			}
			if read, ok := impl.ReadTrace(trace, unit); !ok || read != s || !impl.IsTrace(trace) {
				t.Fatalf("ReadTrace(%v, %d) = %q, %v", trace, unit, read, ok)
			}
			if drift, ok := impl.DriftOf(trace, unit); !ok || drift != 0 {
				t.Fatalf("DriftOf(%v, %d) = %d, %v", trace, unit, drift, ok)
			}
			if best, drift, ok := impl.BestUnit(trace); !ok || drift != 0 || best > unit || driftByHand(trace, best) != 0 {
				t.Fatalf("BestUnit(%v) = %d, %d, %v", trace, best, drift, ok)
			}
		}
	}
}

func TestTraceOfTheLongestSignals(t *testing.T) {
	// No unit makes an exact length greater than MaxLength: the greatest one is 7 * MaxUnit.
	for _, s := range []string{strings.TrimSuffix(strings.Repeat("----- ", 12), " "), strings.TrimSuffix(strings.Repeat("-----/", 6), "/"), "-----/----- ----- ----- ----- ----- ----- ----- ----- ----- -----"} {
		for unit := 1; unit <= 99; unit++ {
			trace, ok := impl.TraceOf(s, unit)
			if !ok || !slices.Equal(trace, traceByHand(s, unit)) {
				t.Fatalf("TraceOf(%q, %d) = %v, %v", s, unit, trace, ok)
			}
			if units, ok := impl.UnitsFor(trace, s); !ok || !slices.Contains(units, unit) {
				t.Fatalf("UnitsFor(%v, %q) = %v, %v", trace, s, units, ok)
			}
		}
	}
}

func TestBoundsOf(t *testing.T) {
	for _, s := range append(textsOf(".- /", 5), signalsForLines()...) {
		if !impl.IsSignal(s) || s == "" {
			continue
		}
		for _, unit := range []int{1, 2, 3, 10, 50, 99} {
			bounds, ok := impl.BoundsOf(s, unit)
			if !ok || len(bounds) != len(traceByHand(s, unit)) {
				t.Fatalf("BoundsOf(%q, %d) = %v, %v", s, unit, bounds, ok)
			}
			checkBounds(t, s, unit, bounds)
		}
	}
	for _, x := range []struct {
		s      string
		unit   int
		bounds [][2]int
	}{
		{".", 1, [][2]int{{1, 1}}}, {"-", 1, [][2]int{{2, 999}}}, {".", 99, [][2]int{{1, 197}}}, {"-", 99, [][2]int{{198, 999}}}, {". .", 1, [][2]int{{1, 1}, {2, 4}, {1, 1}}}, {"./.", 99, [][2]int{{1, 197}, {495, 999}, {1, 197}}},
		{".- -/.", 10, [][2]int{{1, 19}, {1, 19}, {20, 999}, {20, 49}, {20, 999}, {50, 999}, {1, 19}}},
	} {
		if bounds, ok := impl.BoundsOf(x.s, x.unit); !ok || !slices.Equal(bounds, x.bounds) {
			t.Errorf("BoundsOf(%q, %d) = %v, %v", x.s, x.unit, bounds, ok)
		}
	}
}

// checkBounds moves one length after the other to its bounds, and by one over them.
func checkBounds(t *testing.T, s string, unit int, bounds [][2]int) {
	t.Helper()
	for i, bound := range bounds {
		for _, length := range []int{bound[0] - 1, bound[0], (bound[0] + bound[1]) / 2, bound[1], bound[1] + 1} {
			trace := traceByHand(s, unit)
			trace[i] = length
			read, _ := impl.ReadTrace(trace, unit)
			if (read == s) != (length >= bound[0] && length <= bound[1]) {
				t.Fatalf("BoundsOf(%q, %d) = %v, but ReadTrace(%v) is %q", s, unit, bounds, trace, read)
			}
		}
	}
	for side := range 2 {
		trace := []int{}
		for _, bound := range bounds {
			trace = append(trace, bound[side])
		}
		if read, ok := impl.ReadTrace(trace, unit); !ok || read != s {
			t.Fatalf("ReadTrace(%v, %d) = %q, %v, not %q", trace, unit, read, ok, s)
		}
	}
}

func TestStretchTrace(t *testing.T) {
	sides := []int{1, 2, 3, 7, 10, 50, 98, 99}
	for _, trace := range append(shortTraces(), longTraces()...) {
		kept := slices.Clone(trace)
		for _, top := range sides {
			for _, bottom := range sides {
				want := []int{}
				for _, length := range trace {
					if product := length * top; product >= bottom && product < 1000*bottom {
						want = append(want, (product-product%bottom)/bottom)
					}
				}
				is := len(want) == len(trace)
				if !is {
					want = nil
				}
				if out, ok := impl.StretchTrace(trace, top, bottom); ok != is || !slices.Equal(out, want) {
					t.Fatalf("StretchTrace(%v, %d, %d) = %v, %v", trace, top, bottom, out, ok)
				}
			}
		}
		if !slices.Equal(trace, kept) {
			t.Fatalf("StretchTrace has modified %v", kept)
		}
	}
	for _, x := range []struct {
		length, top, bottom, want int
	}{{1, 1, 2, 0}, {1, 99, 99, 1}, {98, 1, 99, 0}, {99, 1, 99, 1}, {999, 1, 1, 999}, {999, 99, 99, 999}, {500, 2, 1, 0}, {499, 2, 1, 998}, {10, 99, 1, 990}, {11, 99, 1, 0}, {999, 99, 98, 0}, {999, 98, 99, 988}, {667, 3, 2, 0}, {666, 3, 2, 999}} {
		out, ok := impl.StretchTrace([]int{x.length}, x.top, x.bottom)
		if ok != (x.want > 0) || ok && !slices.Equal(out, []int{x.want}) {
			t.Errorf("StretchTrace(%v) = %v, %v", x, out, ok)
		}
	}
	for _, side := range otherUnits() {
		for _, pair := range [][2]int{{side, 1}, {1, side}, {side, side}, {side, 99}, {99, side}} {
			if out, ok := impl.StretchTrace([]int{10, 10, 10}, pair[0], pair[1]); ok || len(out) != 0 {
				t.Errorf("StretchTrace by %v = %v, %v", pair, out, ok)
			}
		}
	}
}

func TestShortLengthsAreFilledAndDropped(t *testing.T) {
	for _, trace := range append(shortTraces(), longTraces()...) {
		kept := slices.Clone(trace)
		line := drawn(trace)
		for _, least := range []int{1, 2, 3, 6, 10, 11, 20, 70, 71, 500, 998, 999} {
			want, is := traceOfDrawn(redrawn(line, 0, least))
			if filled, ok := impl.FillShort(trace, least); ok != is || !slices.Equal(filled, want) {
				t.Fatalf("FillShort(%v, %d) = %v, %v, not %v", trace, least, filled, ok, want)
			}
			want, is = traceOfDrawn(redrawn(line, 1, least))
			if left, ok := impl.DropShort(trace, least); ok != is || !slices.Equal(left, want) {
				t.Fatalf("DropShort(%v, %d) = %v, %v, not %v", trace, least, left, ok, want)
			}
		}
		if !slices.Equal(trace, kept) {
			t.Fatalf("FillShort or DropShort has modified %v", kept)
		}
	}
	for _, least := range otherLengths() {
		if filled, ok := impl.FillShort([]int{10, 10, 10}, least); ok || len(filled) != 0 {
			t.Errorf("FillShort by %d = %v, %v", least, filled, ok)
		}
		if left, ok := impl.DropShort([]int{999, 10, 10}, least); ok || len(left) != 0 {
			t.Errorf("DropShort by %d = %v, %v", least, left, ok)
		}
	}
}

func TestFillShortIsWrittenOut(t *testing.T) {
	for _, x := range []struct {
		trace []int
		least int
		want  []int
	}{
		{[]int{10}, 999, []int{10}}, {[]int{10, 5, 20, 70, 30}, 8, []int{35, 70, 30}}, {[]int{10, 5, 20, 6, 30}, 8, []int{71}}, {[]int{1, 1, 1, 1, 1, 2, 1}, 2, []int{5, 2, 1}}, {[]int{3, 5, 3}, 5, []int{3, 5, 3}}, {[]int{3, 5, 3}, 6, []int{11}},
		{[]int{500, 1, 498}, 2, []int{999}}, {[]int{500, 1, 499}, 2, nil}, {[]int{999, 1, 1}, 999, nil}, {[]int{999, 1, 999}, 1, []int{999, 1, 999}}, {[]int{1, 999, 1}, 999, []int{1, 999, 1}}, {[]int{1, 998, 1}, 999, nil},
		{[]int{1, 997, 1}, 999, []int{999}}, {[]int{5, 9, 400, 1, 400, 1, 400, 9, 5}, 2, nil}, {repeated(143, 6), 7, []int{858}}, {repeated(143, 7), 8, nil}, {repeated(143, 7), 7, repeated(143, 7)},
	} {
		filled, ok := impl.FillShort(x.trace, x.least)
		if ok != (x.want != nil) || !slices.Equal(filled, x.want) {
			t.Errorf("FillShort(%v, %d) = %v, %v", x.trace, x.least, filled, ok)
		}
	}
}

func TestDropShortIsWrittenOut(t *testing.T) {
	for _, x := range []struct {
		trace []int
		least int
		want  []int
	}{
		{[]int{10}, 10, []int{10}}, {[]int{10}, 11, nil}, {[]int{3}, 8, nil}, {[]int{10, 5, 3, 70, 30}, 8, []int{10, 78, 30}}, {[]int{3, 5, 10, 70, 30}, 8, []int{10, 70, 30}}, {[]int{30, 5, 10, 70, 3}, 8, []int{30, 5, 10}}, {[]int{3, 5, 10, 70, 3}, 8, []int{10}},
		{[]int{3, 999, 3, 999, 10, 999, 3, 999, 3}, 8, []int{10}}, {[]int{3, 5, 3, 5, 3}, 4, nil}, {[]int{1, 1, 1}, 1, []int{1, 1, 1}}, {[]int{10, 500, 3, 496, 10}, 8, []int{10, 999, 10}}, {[]int{10, 500, 3, 497, 10}, 8, nil},
		{[]int{10, 999, 3, 999, 10}, 3, []int{10, 999, 3, 999, 10}}, {[]int{999, 1, 998, 1, 999}, 999, nil}, {[]int{999, 1, 997, 1, 999}, 999, []int{999, 999, 999}}, {[]int{9, 1, 3, 1, 3, 1, 9, 1, 3, 1, 9}, 8, []int{9, 9, 9, 5, 9}}, {repeated(143, 6), 7, nil}, {repeated(143, 7), 7, repeated(143, 7)},
	} {
		left, ok := impl.DropShort(x.trace, x.least)
		if ok != (len(x.want) > 0) || !slices.Equal(left, x.want) {
			t.Errorf("DropShort(%v, %d) = %v, %v", x.trace, x.least, left, ok)
		}
	}
}

func TestBackTrace(t *testing.T) {
	for _, trace := range append(shortTraces(), longTraces()...) {
		kept := slices.Clone(trace)
		back, ok := impl.BackTrace(trace)
		if !ok || len(back) != len(trace) {
			t.Fatalf("BackTrace(%v) = %v, %v", trace, back, ok)
		}
		for i, length := range trace {
			if back[len(back)-1-i] != length {
				t.Fatalf("BackTrace(%v) = %v", trace, back)
			}
		}
		if again, ok := impl.BackTrace(back); !ok || !slices.Equal(again, trace) {
			t.Fatalf("BackTrace(%v) = %v, %v", back, again, ok)
		}
		if !slices.Equal(trace, kept) {
			t.Fatalf("BackTrace has modified %v", kept)
		}
	}
}

func TestJoinTraces(t *testing.T) {
	ups := []int{1, 2, 70, 998, 999}
	for _, n := range []int{1, 3, 71, 73, 139, 141, 143} {
		for _, m := range []int{1, 3, 69, 71, 139, 141, 143} {
			a, b := repeated(n, 3, 1, 2), repeated(m, 999, 4)
			for _, up := range append(ups, otherLengths()...) {
				want := []int{}
				if n+m < 143 && slices.Contains(ups, up) {
					want = append(append(append(want, a...), up), b...)
				}
				joined, ok := impl.JoinTraces(a, up, b)
				if ok != (len(want) > 0) || !slices.Equal(joined, want) {
					t.Fatalf("JoinTraces of %d lengths, %d, and %d lengths = %v, %v", n, up, m, joined, ok)
				}
			}
			if !slices.Equal(a, repeated(n, 3, 1, 2)) || !slices.Equal(b, repeated(m, 999, 4)) {
				t.Fatalf("JoinTraces has modified its arguments of %d and %d lengths", n, m)
			}
		}
	}
	for _, list := range append(notTraces(), []int{5, 5}, []int{1, 1, 1, 1}) {
		for _, other := range [][]int{{10}, {1, 2, 3}, list} {
			if joined, ok := impl.JoinTraces(list, 10, other); ok || len(joined) != 0 {
				t.Errorf("JoinTraces of no trace = %v, %v", joined, ok)
			}
			if joined, ok := impl.JoinTraces(other, 10, list); ok || len(joined) != 0 {
				t.Errorf("JoinTraces with no trace = %v, %v", joined, ok)
			}
		}
	}
}

func TestKeyFunctionsFailForOtherTraces(t *testing.T) {
	for _, list := range notTraces() {
		kept := slices.Clone(list)
		s, read := impl.ReadTrace(list, 10)
		drift, drifts := impl.DriftOf(list, 10)
		best, least, has := impl.BestUnit(list)
		units, is := impl.UnitsFor(list, ".")
		signals, are := impl.SignalsOf(list)
		if read || drifts || has || is || are || s != "" || drift != 0 || best != 0 || least != 0 || len(units) != 0 || len(signals) != 0 {
			t.Errorf("read %d lengths: %q, %d, %d, %d, %v, %q", len(list), s, drift, best, least, units, signals)
		}
		stretched, one := impl.StretchTrace(list, 1, 1)
		filled, two := impl.FillShort(list, 10)
		left, three := impl.DropShort(list, 2)
		back, four := impl.BackTrace(list)
		if one || two || three || four || len(stretched) != 0 || len(filled) != 0 || len(left) != 0 || len(back) != 0 {
			t.Errorf("changed %d lengths: %v, %v, %v, %v", len(list), stretched, filled, left, back)
		}
		if !slices.Equal(list, kept) {
			t.Errorf("a list of %d lengths has been modified", len(list))
		}
	}
}

func TestKeyFunctionsFailForOtherUnits(t *testing.T) {
	for _, unit := range otherUnits() {
		for _, trace := range [][]int{{10}, {10, 10, 10}, repeated(11, 10)} {
			s, read := impl.ReadTrace(trace, unit)
			drift, drifts := impl.DriftOf(trace, unit)
			if read || drifts || s != "" || drift != 0 {
				t.Errorf("with the unit %d: %q, %d", unit, s, drift)
			}
		}
		for _, s := range []string{"", ".", "./-", "x"} {
			trace, is := impl.TraceOf(s, unit)
			bounds, has := impl.BoundsOf(s, unit)
			if is || has || len(trace) != 0 || len(bounds) != 0 {
				t.Errorf("of %q with the unit %d: %v, %v", s, unit, trace, bounds)
			}
		}
	}
}

func TestKeyFunctionsFailForOtherSignals(t *testing.T) {
	for _, s := range append(notSignals(), "") {
		for _, unit := range []int{1, 10, 99} {
			trace, is := impl.TraceOf(s, unit)
			bounds, has := impl.BoundsOf(s, unit)
			if is || has || len(trace) != 0 || len(bounds) != 0 {
				t.Errorf("of %.20q with the unit %d: %v, %v", s, unit, trace, bounds)
			}
		}
	}
	for _, s := range notSignals() {
		for _, trace := range append([][]int{{10}, repeated(11, 10), repeated(25, 10, 30)}, notTraces()...) {
			if units, ok := impl.UnitsFor(trace, s); ok || len(units) != 0 {
				t.Errorf("UnitsFor(%.20q) = %v, %v", s, units, ok)
			}
		}
	}
	// The empty text is a signal, but no trace is read as it.
	if units, ok := impl.UnitsFor([]int{10}, ""); !ok || len(units) != 0 {
		t.Errorf("UnitsFor the empty signal = %v, %v", units, ok)
	}
}

func TestResultsOfKeysShareNoMemory(t *testing.T) {
	trace := []int{10, 30, 20, 70, 15}
	results := func(a []int) [][]int {
		stretched, _ := impl.StretchTrace(a, 1, 1)
		filled, _ := impl.FillShort(a, 1)
		left, _ := impl.DropShort(a, 1)
		back, _ := impl.BackTrace(a)
		joined, _ := impl.JoinTraces(a[:3], 5, a[4:])
		units, _ := impl.UnitsFor(a, ". -/-")
		exact, _ := impl.TraceOf("./-", 10)
		return [][]int{stretched, filled, left, back, joined, units, exact}
	}
	want := results(slices.Clone(trace))
	for i := range want {
		for _, result := range results(trace)[i : i+1] {
			if len(result) == 0 {
				t.Fatalf("result %d is empty", i)
			}
			for k := range result {
				result[k] = -7
			}
		}
		if !slices.Equal(trace, []int{10, 30, 20, 70, 15}) {
			t.Fatalf("result %d shares memory with its argument", i)
		}
		for k, again := range results(trace) {
			if !slices.Equal(again, want[k]) {
				t.Fatalf("result %d is %v after a change of result %d", k, again, i)
			}
		}
	}
	// The memory behind the end of an argument is nobody else's either.
	room := append(make([]int, 0, 10), 10)
	impl.JoinTraces(room, 5, []int{7})
	impl.FillShort(room, 5)
	if !slices.Equal(room[:4], []int{10, 0, 0, 0}) {
		t.Errorf("the memory behind an argument is %v", room[:4])
	}
}
