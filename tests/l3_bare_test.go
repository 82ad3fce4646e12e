package tests

import (
	"math"
	"slices"
	"strings"
	"testing"

	"loop.example/g01248/impl"
)

// tablesForBare has, beside the Tables for messages, Tables that mislead late, and Tables that do
// not mislead although the marks of some letters begin with those of others.
func tablesForBare() []impl.Table {
	return append(tablesForMessages(),
		table(".", ".-"), table(".-", "."), table(".", ".-", "--"), table("-", ".-", ".--"),
		table(".-", ".", "-."), table("-", ".", ".-"), table(".", "-.", "--"),
		table(".-", ".-.", "-..", "--.-"), table(".-.", ".", "-", "--", ".--."),
		table(".", "..", "...", "....", "....."), table(".....", "....", "...", "..", "."),
		table("...", ".."), table("..", "....."), table("-----", "--"),
		table(".", "--...", "..-.-", "-.--"), table("-..", "-.--.", "---.-", ".---.", "..--", "-..--"),
		table(".-..", "..---", "---..", "----", "-..-.", ".----", ".-..-", "..-.-", "-.-.-"),
	)
}

// notBare has texts that are too long, or have a sign that is no mark.
func notBare() []string {
	return []string{
		strings.Repeat(".", impl.MaxBare+1), strings.Repeat("-", impl.MaxBare+1), strings.Repeat("-.", 1000000),
		" ", ".- ", " .-", ". -", "./-", ".,-", "a", "abc", ".x", "x.", "-\x00", "\xff", ".\xff", "·", "−", "–", "…", "._", "0", "\n", ".\n",
	}
}

// readingsByHand returns all readings, the first one first, by trying letter after letter.
func readingsByHand(t impl.Table, s string) []string {
	if s == "" {
		return []string{""}
	}
	readings := []string{}
	for letter, marks := range t.Marks {
		if !strings.HasPrefix(s, marks) {
			continue
		}
		for _, rest := range readingsByHand(t, s[len(marks):]) {
			readings = append(readings, "abcdefghij"[letter:letter+1]+rest)
		}
	}
	return readings
}

// bordersByHand returns for each place of a bare text how many of its readings have it as border.
func bordersByHand(t impl.Table, s string) []int {
	counts := make([]int, len(s)+1)
	for _, m := range readingsByHand(t, s) {
		place := 0
		counts[0]++
		for i := range len(m) {
			place += len(t.Marks[m[i]-'a'])
			counts[place]++
		}
	}
	return counts
}

func marksByHand(t impl.Table, m string) string {
	s := ""
	for i := range len(m) {
		s += t.Marks[m[i]-'a']
	}
	return s
}

// firstMisleadingByHand goes through all texts by their order, mark by mark. Of a text only its
// last marks matter, and how many readings (two stand for more) end at each of the last places.
func firstMisleadingByHand(t impl.Table) (string, bool) {
	type state struct {
		last   string
		counts [impl.MaxMarks + 1]int
	}
	type node struct {
		text string
		at   state
	}
	start := state{}
	start.counts[0] = 1
	seen := map[state]bool{start: true}
	for queue := []node{{"", start}}; len(queue) > 0; queue = queue[1:] {
		for _, mark := range []string{".", "-"} {
			n := node{queue[0].text + mark, state{last: queue[0].at.last + mark}}
			copy(n.at.counts[1:], queue[0].at.counts[:])
			for _, marks := range t.Marks {
				if strings.HasSuffix(n.at.last, marks) {
					n.at.counts[0] = min(2, n.at.counts[0]+n.at.counts[len(marks)])
				}
			}
			if n.at.counts[0] > 1 {
				return n.text, true
			}
			n.at.last = n.at.last[max(0, len(n.at.last)-impl.MaxMarks+1):]
			if !seen[n.at] {
				seen[n.at] = true
				queue = append(queue, n)
			}
		}
	}
	return "", false
}

// manyTables returns Tables of 1..3 letters with at most 3 marks, in all orders.
func manyTables() []impl.Table {
	tables := []impl.Table{}
	letters := textsOf(".-", 3)[1:]
	for _, a := range letters {
		tables = append(tables, table(a))
		for _, b := range letters {
			if a == b {
				continue
			}
			tables = append(tables, table(a, b))
			for _, c := range letters {
				if c != a && c != b {
					tables = append(tables, table(a, b, c))
				}
			}
		}
	}
	return tables
}

// longerTables returns Tables of up to MaxTable letters of any number of marks, by a short rule.
func longerTables() []impl.Table {
	tables := []impl.Table{}
	letters := textsOf(".-", impl.MaxMarks)[1:]
	for step := 1; step < len(letters); step++ {
		for first := 0; first < len(letters); first += 5 {
			marks := []string{}
			for i := 0; len(marks) < 2+(step+first)%9; i++ {
				next := letters[(first+i*step+i*i)%len(letters)]
				if !slices.Contains(marks, next) {
					marks = append(marks, next)
				}
				if i > 200 {
					break
				}
			}
			tables = append(tables, table(marks...))
		}
	}
	return tables
}

func TestIsBareKnowsMarksAndLength(t *testing.T) {
	for _, s := range textsOf(".-", 10) {
		if !impl.IsBare(s) {
			t.Errorf("IsBare(%q) = false", s)
		}
	}
	for _, s := range []string{strings.Repeat(".", impl.MaxBare), strings.Repeat("-", impl.MaxBare), strings.Repeat("-.", impl.MaxBare/2)} {
		if !impl.IsBare(s) {
			t.Errorf("IsBare(%q) = false", s)
		}
	}
	for _, s := range notBare() {
		if impl.IsBare(s) {
			t.Errorf("IsBare(%.50q) = true", s)
		}
	}
	for b := range 256 {
		sign := string([]byte{byte(b)})
		is := sign == "." || sign == "-"
		if impl.IsBare(sign) != is || impl.IsBare("."+sign) != is || impl.IsBare(sign+"-") != is {
			t.Errorf("IsBare(%q)", sign)
		}
	}
}

func TestReadingsAreThoseByHand(t *testing.T) {
	for _, tab := range tablesForBare() {
		for _, s := range textsOf(".-", 8) {
			checkReadings(t, tab, s)
		}
	}
	for _, tab := range manyTables() {
		for _, s := range textsOf(".-", 5) {
			checkReadings(t, tab, s)
		}
	}
	for _, tab := range longerTables() {
		for _, s := range []string{"", ".-..-.-", "-.-..--.-.-", "...-.--..-.-", ".-------.--.", strings.Repeat(".", 12)} {
			checkReadings(t, tab, s)
		}
	}
}

func checkReadings(t *testing.T, tab impl.Table, s string) {
	t.Helper()
	readings := readingsByHand(tab, s)
	if n, ok := impl.CountReadings(tab, s); !ok || n != len(readings) {
		t.Fatalf("CountReadings(%q, %q) = %d, %v; want %d", tab.Marks, s, n, ok, len(readings))
	}
	for k, want := range readings {
		if m, ok := impl.ReadingAt(tab, s, k); !ok || m != want {
			t.Fatalf("ReadingAt(%q, %q, %d) = %q, %v; want %q", tab.Marks, s, k, m, ok, want)
		}
		if rank, ok := impl.RankOfReading(tab, want); !ok || rank != k {
			t.Fatalf("RankOfReading(%q, %q) = %d, %v; want %d", tab.Marks, want, rank, ok, k)
		}
	}
	for _, k := range []int{-1, len(readings), len(readings) + 1, math.MinInt, math.MaxInt} {
		if m, ok := impl.ReadingAt(tab, s, k); ok || m != "" {
			t.Fatalf("ReadingAt(%q, %q, %d) = %q, %v", tab.Marks, s, k, m, ok)
		}
	}
	checkBestReadings(t, tab, s, readings)
	checkBorders(t, tab, s, len(readings))
}

func checkBestReadings(t *testing.T, tab impl.Table, s string, readings []string) {
	t.Helper()
	shortest, longest := "", ""
	for i, m := range readings {
		if i == 0 || len(m) < len(shortest) {
			shortest = m
		}
		if i == 0 || len(m) > len(longest) {
			longest = m
		}
	}
	some := len(readings) > 0
	if m, ok := impl.ShortestReading(tab, s); ok != some || m != shortest {
		t.Fatalf("ShortestReading(%q, %q) = %q, %v; want %q, %v", tab.Marks, s, m, ok, shortest, some)
	}
	if m, ok := impl.LongestReading(tab, s); ok != some || m != longest {
		t.Fatalf("LongestReading(%q, %q) = %q, %v; want %q, %v", tab.Marks, s, m, ok, longest, some)
	}
}

func checkBorders(t *testing.T, tab impl.Table, s string, all int) {
	t.Helper()
	some, certain := []int{}, []int{}
	for place, count := range bordersByHand(tab, s) {
		if count > 0 {
			some = append(some, place)
		}
		if count > 0 && count == all {
			certain = append(certain, place)
		}
	}
	if got, ok := impl.BordersOf(tab, s); !ok || !slices.Equal(got, some) {
		t.Fatalf("BordersOf(%q, %q) = %v, %v; want %v", tab.Marks, s, got, ok, some)
	}
	if got, ok := impl.CertainBorders(tab, s); !ok || !slices.Equal(got, certain) {
		t.Fatalf("CertainBorders(%q, %q) = %v, %v; want %v", tab.Marks, s, got, ok, certain)
	}
}

func TestReadingsThatAreWrittenOut(t *testing.T) {
	tab := table(".", "-", ".-")
	for _, c := range []struct {
		s        string
		readings []string
		shortest string
		longest  string
		some     []int
		certain  []int
	}{
		{"", []string{""}, "", "", []int{0}, []int{0}},
		{".", []string{"a"}, "a", "a", []int{0, 1}, []int{0, 1}},
		{".-", []string{"ab", "c"}, "c", "ab", []int{0, 1, 2}, []int{0, 2}},
		{"-.-.", []string{"baba", "bca"}, "bca", "baba", []int{0, 1, 2, 3, 4}, []int{0, 1, 3, 4}},
		{".-.-", []string{"abab", "abc", "cab", "cc"}, "cc", "abab", []int{0, 1, 2, 3, 4}, []int{0, 2, 4}},
	} {
		for k, m := range c.readings {
			if got, ok := impl.ReadingAt(tab, c.s, k); !ok || got != m {
				t.Errorf("ReadingAt(%q, %d) = %q, %v", c.s, k, got, ok)
			}
		}
		count, _ := impl.CountReadings(tab, c.s)
		shortest, _ := impl.ShortestReading(tab, c.s)
		longest, _ := impl.LongestReading(tab, c.s)
		some, _ := impl.BordersOf(tab, c.s)
		certain, _ := impl.CertainBorders(tab, c.s)
		if count != len(c.readings) || shortest != c.shortest || longest != c.longest || !slices.Equal(some, c.some) || !slices.Equal(certain, c.certain) {
			t.Errorf("%q: %d, %q, %q, %v, %v", c.s, count, shortest, longest, some, certain)
		}
	}
}

func TestTheFirstOfTheBestReadingsIsTaken(t *testing.T) {
	tab := table(".-.", "-", ".", "-.", ".-")
	s := ".-.-."
	if readings := readingsByHand(tab, s); len(readings) < 6 {
		t.Fatal(readings)
	}
	if m, ok := impl.ShortestReading(tab, s); !ok || m != "ad" {
		t.Errorf("ShortestReading = %q, %v", m, ok)
	}
	if m, ok := impl.ShortestReading(table(".", "-.", ".-"), "-.-."); !ok || m != "bb" {
		t.Errorf("ShortestReading = %q, %v", m, ok)
	}
	if m, ok := impl.LongestReading(table(".-", ".", "-."), ".-."); !ok || m != "ab" {
		t.Errorf("LongestReading = %q, %v", m, ok)
	}
}

func TestWithoutReadings(t *testing.T) {
	tab := table(".", "--")
	for _, s := range []string{"-", ".-", "-.", ".-.", "---", strings.Repeat(".", impl.MaxBare-1) + "-"} {
		if n, ok := impl.CountReadings(tab, s); !ok || n != 0 {
			t.Errorf("CountReadings(%q) = %d, %v", s, n, ok)
		}
		checkReadings(t, tab, s)
	}
}

// The readings by letters of 1..5 dots are so many that numbers of 32 bits would not do.
func TestReadingsOfTheLongestBareTexts(t *testing.T) {
	tab := table("..", ".", ".....", "...", "....")
	counts := []int{1}
	for n := 1; n <= impl.MaxBare; n++ {
		sum := 0
		for _, count := range counts[max(0, n-impl.MaxMarks):] {
			sum += count
		}
		counts = append(counts, sum)
	}
	s := strings.Repeat(".", impl.MaxBare)
	all := counts[impl.MaxBare]
	if n, ok := impl.CountReadings(tab, s); !ok || n != all || all < math.MaxUint32 {
		t.Fatalf("CountReadings = %d, %v; want %d", n, ok, all)
	}
	for _, k := range []int{0, 1, 2, 12345, all / 3, all / 2, all - 2, all - 1} {
		m, ok := impl.ReadingAt(tab, s, k)
		if !ok || marksByHand(tab, m) != s {
			t.Fatalf("ReadingAt(%d) = %q, %v", k, m, ok)
		}
		if rank, ok := impl.RankOfReading(tab, m); !ok || rank != k {
			t.Errorf("RankOfReading(%q) = %d, %v; want %d", m, rank, ok, k)
		}
	}
	for k, want := range map[int]string{0: strings.Repeat("a", 20), 1: strings.Repeat("a", 19) + "bb", all - 1: strings.Repeat("e", 10)} {
		if m, ok := impl.ReadingAt(tab, s, k); !ok || m != want {
			t.Errorf("ReadingAt(%d) = %q, %v; want %q", k, m, ok, want)
		}
	}
	for _, k := range []int{-1, all, all + 1} {
		if m, ok := impl.ReadingAt(tab, s, k); ok || m != "" {
			t.Errorf("ReadingAt(%d) = %q, %v", k, m, ok)
		}
	}
	shortest, ok := impl.ShortestReading(tab, s)
	longest, fine := impl.LongestReading(tab, s)
	if !ok || !fine || shortest != strings.Repeat("c", 8) || longest != strings.Repeat("b", 40) {
		t.Errorf("best readings %q, %q", shortest, longest)
	}
	places, ok := impl.BordersOf(tab, s)
	certain, fine := impl.CertainBorders(tab, s)
	if !ok || !fine || len(places) != impl.MaxBare+1 || places[40] != 40 || !slices.Equal(certain, []int{0, 40}) {
		t.Errorf("borders %v, %v", places, certain)
	}
}

func TestRankOfReadingKnowsItsTexts(t *testing.T) {
	tab := table(".", "-", ".-", "--..-")
	for _, m := range []string{"", "a", "d", strings.Repeat("a", 40), strings.Repeat("c", 20), strings.Repeat("d", 8), strings.Repeat("c", 19) + "aa"} {
		if _, ok := impl.RankOfReading(tab, m); !ok {
			t.Errorf("RankOfReading(%q) fails", m)
		}
	}
	for m, want := range map[string]int{"": 0, strings.Repeat("ab", 20): 0, strings.Repeat("c", 20): 1<<20 - 1, strings.Repeat("a", 40): 0} {
		if rank, ok := impl.RankOfReading(tab, m); !ok || rank != want {
			t.Errorf("RankOfReading(%q) = %d, %v; want %d", m, rank, ok, want)
		}
	}
	for _, m := range []string{
		" ", "a b", "a ", " a", "e", "ae", "ea", "j", "z", "A", "aB", "`", ".", ".-", "a/b", "a\x00", "\xff", "a\xff", "á", "ａ", "\xe1", "0",
		strings.Repeat("a", 41), strings.Repeat("c", 20) + "a", strings.Repeat("d", 8) + "b", strings.Repeat("d", 9), strings.Repeat("a", 1000000),
	} {
		if rank, ok := impl.RankOfReading(tab, m); ok || rank != 0 {
			t.Errorf("RankOfReading(%.50q) = %d, %v", m, rank, ok)
		}
	}
	last := table(".", "-", "..", ".-", "-.", "--", "...", "..-", ".-.", ".--")
	if rank, ok := impl.RankOfReading(last, "j"); !ok || rank != len(readingsByHand(last, ".--"))-1 {
		t.Errorf("RankOfReading = %d, %v", rank, ok)
	}
	if _, ok := impl.RankOfReading(last, "k"); ok {
		t.Error("an eleventh letter")
	}
}

func TestMisleadingIsThatByHand(t *testing.T) {
	misleading := 0
	tables := append(tablesForBare(), append(manyTables(), longerTables()...)...)
	for _, tab := range tables {
		want, is := firstMisleadingByHand(tab)
		if is {
			misleading++
		}
		if misleads, ok := impl.DoesMislead(tab); !ok || misleads != is {
			t.Fatalf("DoesMislead(%q) = %v, %v; want %v", tab.Marks, misleads, ok, is)
		}
		s, ok := impl.FirstMisleading(tab)
		if ok != is || s != want {
			t.Fatalf("FirstMisleading(%q) = %q, %v; want %q, %v", tab.Marks, s, ok, want, is)
		}
		if n, counted := impl.CountReadings(tab, s); is && (!counted || n < 2) {
			t.Fatalf("%q has %d readings by %q", s, n, tab.Marks)
		}
	}
	if misleading < 100 || len(tables)-misleading < 100 {
		t.Fatal("tables", len(tables), misleading)
	}
}

// The order of bare texts is gone through here as it is defined, by enumerating them.
func TestFirstMisleadingIsTheFirstOfAll(t *testing.T) {
	texts := textsOf(".-", 9)
	for _, tab := range tablesForBare() {
		want, is := "", false
		for _, s := range texts {
			if len(readingsByHand(tab, s)) > 1 {
				want, is = s, true
				break
			}
		}
		s, ok := impl.FirstMisleading(tab)
		if is && (!ok || s != want) || !is && ok && len(s) < 10 {
			t.Errorf("FirstMisleading(%q) = %q, %v; want %q", tab.Marks, s, ok, want)
		}
	}
}

func TestFirstMisleadingTextsThatAreWrittenOut(t *testing.T) {
	for _, c := range []struct {
		tab  impl.Table
		want string
	}{
		{table(".", ".."), ".."},
		{table("--", "-"), "--"},
		{table(".", "-", ".-", "-."), ".-"},
		{table("-", "--", ".", ".."), ".."},
		{table("..", "..."), "....."},
		{table("....", "....."), strings.Repeat(".", 9)},
		{table(".--", ".-", "-"), ".--"},
		{table(".-", ".", "-."), ".-."},
		{table(".", "--...", "..-.-", "-.--"), "..-.--.--..."},
		{table("-..", "-.--.", "---.-", ".---.", "..--", "-..--"), "-..---.--..---.-..--"},
		{table(".-..", "..---", "---..", "----", "-..-.", ".----", ".-..-", "..-.-", "-.-.-"), ".-..----..-.-.-..----..-..-..----"},
	} {
		if s, ok := impl.FirstMisleading(c.tab); s != c.want {
			t.Errorf("FirstMisleading(%q) = %q, %v", c.tab.Marks, s, ok)
		}
	}
}

func TestTablesThatDoNotMislead(t *testing.T) {
	for _, tab := range []impl.Table{
		table("."), table("-----"), table(".-.-."), table(".", "-"), table(".", "-.", "--"),
		table(".", ".-"), table(".", ".-", ".--"), table(".-", ".--", "...."), table("-", "-....", "-..."),
	} {
		misleads, ok := impl.DoesMislead(tab)
		if s, some := impl.FirstMisleading(tab); !ok || misleads || some || s != "" {
			t.Errorf("%q: %v, %v, %q, %v", tab.Marks, misleads, ok, s, some)
		}
	}
}

func TestBeginningPairsAreThoseByHand(t *testing.T) {
	for _, tab := range append(tablesForBare(), append(manyTables(), longerTables()...)...) {
		want := [][2]int{}
		for i := range tab.Marks {
			for j := range tab.Marks {
				a, b := tab.Marks[i], tab.Marks[j]
				if i != j && len(a) <= len(b) && b[:len(a)] == a {
					want = append(want, [2]int{i, j})
				}
			}
		}
		pairs, ok := impl.BeginningPairs(tab)
		if !ok || !slices.Equal(pairs, want) {
			t.Fatalf("BeginningPairs(%q) = %v, %v; want %v", tab.Marks, pairs, ok, want)
		}
		free, ok := impl.IsFreeTable(tab)
		if !ok || free != (len(want) == 0) {
			t.Fatalf("IsFreeTable(%q) = %v, %v", tab.Marks, free, ok)
		}
		if misleads, _ := impl.DoesMislead(tab); free && misleads {
			t.Fatalf("%q is free and misleads", tab.Marks)
		}
	}
	pairs, ok := impl.BeginningPairs(table(".-", ".", "-", ".-.", ".."))
	if !ok || !slices.Equal(pairs, [][2]int{{0, 3}, {1, 0}, {1, 3}, {1, 4}}) {
		t.Errorf("BeginningPairs = %v, %v", pairs, ok)
	}
}

func TestCertainBordersAreSomeOfTheBorders(t *testing.T) {
	for _, tab := range tablesForBare() {
		for _, s := range []string{strings.Repeat(".-", 20), strings.Repeat("..-.--", 6), strings.Repeat("-", 40), ".-..-.-.--...-"} {
			some, _ := impl.BordersOf(tab, s)
			certain, _ := impl.CertainBorders(tab, s)
			for _, place := range certain {
				if !slices.Contains(some, place) {
					t.Errorf("CertainBorders(%q, %q) = %v of %v", tab.Marks, s, certain, some)
				}
			}
			n, _ := impl.CountReadings(tab, s)
			if n == 1 && !slices.Equal(some, certain) || (n == 0) != (len(some) == 0) {
				t.Errorf("%d readings of %q by %q: %v, %v", n, s, tab.Marks, some, certain)
			}
		}
	}
}

func TestBareFunctionsFailForOtherTables(t *testing.T) {
	for _, tab := range tablesThatAreNone() {
		for _, s := range []string{"", ".", ".-", "a", strings.Repeat(".", 40)} {
			checkBareFailures(t, tab, s)
			if n, ok := impl.RankOfReading(tab, s); ok || n != 0 {
				t.Errorf("RankOfReading = %d, %v", n, ok)
			}
		}
		if is, ok := impl.DoesMislead(tab); ok || is {
			t.Error("DoesMislead", is, ok)
		}
		if s, ok := impl.FirstMisleading(tab); ok || s != "" {
			t.Error("FirstMisleading", s, ok)
		}
		if is, ok := impl.IsFreeTable(tab); ok || is {
			t.Error("IsFreeTable", is, ok)
		}
		if pairs, ok := impl.BeginningPairs(tab); ok || len(pairs) != 0 {
			t.Error("BeginningPairs", pairs, ok)
		}
	}
}

func TestBareFunctionsFailForOtherTexts(t *testing.T) {
	for _, tab := range tablesForBare() {
		for _, s := range notBare() {
			checkBareFailures(t, tab, s)
		}
	}
}

func checkBareFailures(t *testing.T, tab impl.Table, s string) {
	t.Helper()
	if n, ok := impl.CountReadings(tab, s); ok || n != 0 {
		t.Errorf("CountReadings = %d, %v", n, ok)
	}
	for _, k := range []int{-1, 0, 1} {
		if m, ok := impl.ReadingAt(tab, s, k); ok || m != "" {
			t.Errorf("ReadingAt = %q, %v", m, ok)
		}
	}
	if m, ok := impl.ShortestReading(tab, s); ok || m != "" {
		t.Errorf("ShortestReading = %q, %v", m, ok)
	}
	if m, ok := impl.LongestReading(tab, s); ok || m != "" {
		t.Errorf("LongestReading = %q, %v", m, ok)
	}
	if places, ok := impl.BordersOf(tab, s); ok || len(places) != 0 {
		t.Errorf("BordersOf = %v, %v", places, ok)
	}
	if places, ok := impl.CertainBorders(tab, s); ok || len(places) != 0 {
		t.Errorf("CertainBorders = %v, %v", places, ok)
	}
}

func TestBareFunctionsModifyNothingAndShareNothing(t *testing.T) {
	marks := []string{".", "-", ".-", "--.", ".."}
	tab := impl.Table{Marks: marks[:4]}
	s := ".-.--."
	for range 2 {
		some, _ := impl.BordersOf(tab, s)
		certain, _ := impl.CertainBorders(tab, s)
		pairs, _ := impl.BeginningPairs(tab)
		if !slices.Equal(some, []int{0, 1, 2, 3, 4, 5, 6}) || !slices.Equal(certain, []int{0, 2, 6}) || !slices.Equal(pairs, [][2]int{{0, 2}, {1, 3}}) {
			t.Fatal(some, certain, pairs)
		}
		// What is written into results must not be seen by the next calls.
		some[0], certain[0], pairs[0] = 9, 9, [2]int{9, 9}
		impl.CountReadings(tab, s)
		impl.ReadingAt(tab, s, 1)
		impl.RankOfReading(tab, "abc")
		impl.ShortestReading(tab, s)
		impl.LongestReading(tab, s)
		impl.DoesMislead(tab)
		impl.FirstMisleading(tab)
		impl.IsFreeTable(tab)
		if !slices.Equal(marks, []string{".", "-", ".-", "--.", ".."}) {
			t.Fatal("arguments are modified", marks)
		}
	}
}
