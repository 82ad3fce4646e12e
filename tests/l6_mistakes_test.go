package tests

import (
	"math"
	"slices"
	"strings"
	"testing"

	"loop.example/g01248/impl"
)

// tablesForMistakes has, beside other Tables, some whose letters are reached by many ways, in
// several orders, and some with letters that nothing leads to.
func tablesForMistakes() []impl.Table {
	tables := append(tablesForBare(), longerTables()...)
	for _, tab := range append(tablesForMessages()[10:],
		table(".", "..", "...", "....", ".....", "-", "--", "---", "----", "-----"),
		table("-.", "..", ".-", "--", "...", "-..", ".-.", "--.", ".", "..-"),
		table(".", "...", ".....", "--", "----", ".-.-."),
		table("..", "--", ".....", "-----"), table(".....", "-----", "..-..", "--.--"),
	) {
		for turn := range tab.Marks {
			marks := append(slices.Clone(tab.Marks[turn:]), tab.Marks[:turn]...)
			tables = append(tables, table(marks...))
			back := slices.Clone(marks)
			slices.Reverse(back)
			tables = append(tables, table(back...))
		}
	}
	return tables
}

// otherMarks has texts that are no marks of a letter, nor of none.
func otherMarks() []string {
	return []string{
		"......", "-.-.-.", strings.Repeat(".", 100000), " ", ". ", " .", ". .", "/", "./-", ",", ".,-", "a", ".a", "a.", "\x00", ".\x00", "\xff", "-\xff", "·", "−", "–", "…", "\n", ".\n",
	}
}

// otherPlaces has numbers that are no letters of a Table.
func otherPlaces(tab impl.Table) []int {
	n := len(tab.Marks)
	return []int{-1, -2, n, n + 1, 10, 11, math.MinInt, math.MaxInt, 1 << 32, -1 << 32}
}

// turnedByHand, lostByHand and moreByHand return all texts that come of s by one mistake.
func turnedByHand(s string) []string {
	texts := []string{}
	for i := range len(s) {
		mark := map[byte]string{'.': "-", '-': "."}[s[i]]
		texts = append(texts, s[:i]+mark+s[i+1:])
	}
	return texts
}

func lostByHand(s string) []string {
	texts := []string{}
	for i := range len(s) {
		texts = append(texts, s[:i]+s[i+1:])
	}
	return texts
}

func moreByHand(s string) []string {
	texts := []string{}
	for i := range len(s) + 1 {
		texts = append(texts, s[:i]+"."+s[i:], s[:i]+"-"+s[i:])
	}
	return texts
}

// distancesByHand makes mistake after mistake. The texts between may be longer than those of a
// letter, by as much as could ever be of use.
func distancesByHand(s string) map[string]int {
	distances := map[string]int{s: 0}
	for queue := []string{s}; len(queue) > 0; queue = queue[1:] {
		come := append(turnedByHand(queue[0]), lostByHand(queue[0])...)
		if len(queue[0]) < impl.MaxMarks+2 {
			come = append(come, moreByHand(queue[0])...)
		}
		for _, text := range come {
			if _, ok := distances[text]; !ok {
				distances[text] = distances[queue[0]] + 1
				queue = append(queue, text)
			}
		}
	}
	return distances
}

// allDistancesByHand has the distances of all texts of at most MaxMarks marks.
func allDistancesByHand() map[string]map[string]int {
	all := map[string]map[string]int{}
	for _, s := range textsOf(".-", impl.MaxMarks) {
		all[s] = distancesByHand(s)
	}
	return all
}

func TestMarkDistanceIsTheLeastNumberOfMistakes(t *testing.T) {
	for a, distances := range allDistancesByHand() {
		for _, b := range textsOf(".-", impl.MaxMarks) {
			if got, ok := impl.MarkDistance(a, b); !ok || got != distances[b] {
				t.Errorf("MarkDistance(%q, %q) = %d, %v, not %d", a, b, got, ok, distances[b])
			}
		}
	}
}

func TestMarkDistancesThatAreWrittenOut(t *testing.T) {
	for _, x := range []struct {
		a, b string
		want int
	}{
		{"", "", 0}, {"", ".", 1}, {"-", "", 1}, {"", ".....", 5}, {"-----", "", 5}, {".", ".", 0}, {".", "-", 1}, {".-", "-.", 2}, {"..", "--", 2},
		{".....", "-----", 5}, {".-.-.", "-.-.-", 2}, {"..--", "--..", 4}, {"-", "...", 3}, {"-", "..-..", 4}, {".-.-", "-.-", 1}, {".----", "----.", 2}, {"--.--", "----", 1}, {".....", ".", 4},
	} {
		one, fine := impl.MarkDistance(x.a, x.b)
		two, also := impl.MarkDistance(x.b, x.a)
		if !fine || !also || one != x.want || two != x.want {
			t.Errorf("MarkDistance of %q and %q = %d and %d, not %d", x.a, x.b, one, two, x.want)
		}
	}
}

func TestMarkDistancesKeepToSums(t *testing.T) {
	texts := textsOf(".-", impl.MaxMarks)
	n := len(texts)
	distances := make([][]int, n)
	for i, a := range texts {
		for j, b := range texts {
			distance, ok := impl.MarkDistance(a, b)
			if !ok || (distance == 0) != (i == j) {
				t.Fatalf("MarkDistance(%q, %q) = %d, %v", a, b, distance, ok)
			}
			distances[i] = append(distances[i], distance)
		}
	}
	for i := range n {
		for j := range n {
			if distances[i][j] != distances[j][i] {
				t.Errorf("%q and %q: %d and %d", texts[i], texts[j], distances[i][j], distances[j][i])
			}
			for k := range n {
				if distances[i][j] > distances[i][k]+distances[k][j] {
					t.Errorf("%q and %q are %d apart, but less by %q", texts[i], texts[j], distances[i][j], texts[k])
				}
			}
		}
	}
}

func TestMarkDistanceFails(t *testing.T) {
	for _, other := range otherMarks() {
		for _, marks := range append(otherMarks(), "", ".", ".-.-.") {
			for _, x := range [][2]string{{other, marks}, {marks, other}} {
				if distance, ok := impl.MarkDistance(x[0], x[1]); ok || distance != 0 {
					t.Errorf("MarkDistance(%.20q, %.20q) = %d, %v", x[0], x[1], distance, ok)
				}
			}
		}
	}
}

func TestNearestLettersAreThoseByHand(t *testing.T) {
	all := allDistancesByHand()
	for _, tab := range append(tablesForMistakes(), manyTables()...) {
		for marks, distances := range all {
			least := math.MaxInt
			for _, other := range tab.Marks {
				least = min(least, distances[other])
			}
			want := []int{}
			for letter, other := range tab.Marks {
				if distances[other] == least {
					want = append(want, letter)
				}
			}
			letters, distance, ok := impl.NearestLetters(tab, marks)
			if !ok || distance != least || !slices.Equal(letters, want) {
				t.Fatalf("NearestLetters(%q, %q) = %v, %d, %v, not %v, %d", tab.Marks, marks, letters, distance, ok, want, least)
			}
		}
	}
}

func TestNearestLettersThatAreWrittenOut(t *testing.T) {
	for _, x := range []struct {
		tab   impl.Table
		marks string
		want  []int
		least int
	}{
		{table("."), "", []int{0}, 1}, {table("."), ".", []int{0}, 0}, {table("."), "-----", []int{0}, 5}, {table("-----"), "", []int{0}, 5}, {table("....."), "-----", []int{0}, 5},
		{table(".", "-"), "", []int{0, 1}, 1}, {table("..", ".", "-"), "", []int{1, 2}, 1}, {table(".-", "-."), "--", []int{0, 1}, 1}, {table(".-", "-."), "-.", []int{1}, 0}, {table("...", ".", "-----"), "--..", []int{0}, 2},
	} {
		letters, least, ok := impl.NearestLetters(x.tab, x.marks)
		if !ok || least != x.least || !slices.Equal(letters, x.want) {
			t.Errorf("NearestLetters(%q, %q) = %v, %d, %v", x.tab.Marks, x.marks, letters, least, ok)
		}
	}
}

func TestLettersByOneMistakeAreThoseByHand(t *testing.T) {
	for _, tab := range append(tablesForMistakes(), manyTables()...) {
		for letter, marks := range tab.Marks {
			for kind, come := range [][]string{turnedByHand(marks), lostByHand(marks), moreByHand(marks)} {
				want := []int{}
				for other := range tab.Marks {
					if slices.Contains(come, tab.Marks[other]) {
						want = append(want, other)
					}
				}
				letters, ok := impl.LettersBy(tab, letter, kind)
				if !ok || !slices.Equal(letters, want) {
					t.Fatalf("LettersBy(%q, %d, %d) = %v, %v, not %v", tab.Marks, letter, kind, letters, ok, want)
				}
			}
		}
	}
}

func TestLettersByThatAreWrittenOut(t *testing.T) {
	tab := table(".", "-", "..", ".-.", "..-..", ".-..", "--", "...", "-----")
	for _, x := range []struct {
		letter, kind int
		want         []int
	}{
		{0, 0, []int{1}}, {0, 1, nil}, {0, 2, []int{2}}, {2, 0, nil}, {2, 1, []int{0}}, {2, 2, []int{3, 7}}, {3, 0, []int{7}}, {3, 1, []int{2}}, {3, 2, []int{5}},
		{4, 0, nil}, {4, 1, []int{5}}, {4, 2, nil}, {5, 2, []int{4}}, {6, 1, []int{1}}, {8, 0, nil}, {8, 1, nil}, {8, 2, nil},
	} {
		if letters, ok := impl.LettersBy(tab, x.letter, x.kind); !ok || !slices.Equal(letters, x.want) {
			t.Errorf("LettersBy(%d, %d) = %v, %v, not %v", x.letter, x.kind, letters, ok, x.want)
		}
	}
	for _, marks := range []string{".", "-----"} {
		for kind := range 3 {
			if letters, ok := impl.LettersBy(table(marks), 0, kind); !ok || len(letters) != 0 {
				t.Errorf("LettersBy(%q, 0, %d) = %v, %v", marks, kind, letters, ok)
			}
		}
	}
}

func TestClosestPairsAreThoseByHand(t *testing.T) {
	all := allDistancesByHand()
	for _, tab := range append(tablesForMistakes(), manyTables()...) {
		least, want := math.MaxInt, [][2]int{}
		for i := range tab.Marks {
			for j := i + 1; j < len(tab.Marks); j++ {
				distance := all[tab.Marks[i]][tab.Marks[j]]
				if distance < least {
					least, want = distance, nil
				}
				if distance == least {
					want = append(want, [2]int{i, j})
				}
			}
		}
		distance, far := impl.LeastDistance(tab)
		pairs, has := impl.ClosestPairs(tab)
		safe, is := impl.IsSafe(tab)
		if !is || safe != (least > 1) {
			t.Fatalf("IsSafe(%q) = %v, %v", tab.Marks, safe, is)
		}
		if len(tab.Marks) == 1 {
			least = 0
		}
		if far != (least > 0) || has != far || distance != least || !slices.Equal(pairs, want) {
			t.Fatalf("LeastDistance and ClosestPairs(%q) = %d, %v, %v, %v, not %d, %v", tab.Marks, distance, far, pairs, has, least, want)
		}
	}
}

func TestDistancesOfTablesThatAreWrittenOut(t *testing.T) {
	for _, x := range []struct {
		tab           impl.Table
		least, repair int
		pairs         [][2]int
	}{
		{table(".", "-"), 1, 0, [][2]int{{0, 1}}}, {table("..", "--"), 2, 0, [][2]int{{0, 1}}}, {table("...", "---"), 3, 1, [][2]int{{0, 1}}}, {table("....", "----"), 4, 1, [][2]int{{0, 1}}}, {table("-----", "....."), 5, 2, [][2]int{{0, 1}}},
		{table("-----", ".", "....", ".-"), 1, 0, [][2]int{{1, 3}}}, {table("...", ".", "---", "-"), 1, 0, [][2]int{{1, 3}}}, {table("....", "..", "----", "--"), 2, 0, [][2]int{{0, 1}, {1, 3}, {2, 3}}}, {table(".....", ".."), 3, 1, [][2]int{{0, 1}}},
	} {
		least, one := impl.LeastDistance(x.tab)
		pairs, two := impl.ClosestPairs(x.tab)
		repair, three := impl.CanRepair(x.tab)
		safe, four := impl.IsSafe(x.tab)
		if !one || !two || !three || !four || least != x.least || !slices.Equal(pairs, x.pairs) || repair != x.repair || safe != (x.least > 1) {
			t.Errorf("%q: %d, %v, %d, %v", x.tab.Marks, least, pairs, repair, safe)
		}
	}
}

func TestTablesOfOneLetter(t *testing.T) {
	for _, marks := range textsOf(".-", impl.MaxMarks)[1:] {
		tab := table(marks)
		least, one := impl.LeastDistance(tab)
		pairs, two := impl.ClosestPairs(tab)
		repair, three := impl.CanRepair(tab)
		if one || two || three || least != 0 || len(pairs) != 0 || repair != 0 {
			t.Errorf("%q: %d, %v, %d", marks, least, pairs, repair)
		}
		safe, four := impl.IsSafe(tab)
		joined, five := impl.JoinedLetters(tab)
		split, six := impl.SplitLetters(tab, 0)
		subset, seven := impl.SafeSubset(tab)
		chain, eight := impl.MistakeChain(tab, 0, 0)
		if !four || !five || !six || !seven || !eight || !safe || len(joined) != 0 || len(split) != 0 || !slices.Equal(subset, []int{0}) || !slices.Equal(chain, []int{0}) {
			t.Errorf("%q: %v, %v, %v, %v, %v", marks, safe, joined, split, subset, chain)
		}
	}
}

// repairsByHand reports whether each letter is the only nearest one behind n or fewer mistakes.
func repairsByHand(tab impl.Table, all map[string]map[string]int, n int) bool {
	for letter := range tab.Marks {
		for _, come := range textsOf(".-", impl.MaxMarks) {
			if all[come][tab.Marks[letter]] > n {
				continue
			}
			for other := range tab.Marks {
				if other != letter && all[come][tab.Marks[other]] <= all[come][tab.Marks[letter]] {
					return false
				}
			}
		}
	}
	return true
}

func TestCanRepairIsTheGreatestNumberOfMistakes(t *testing.T) {
	all := allDistancesByHand()
	for _, tab := range append(tablesForMistakes(), manyTables()...) {
		repair, ok := impl.CanRepair(tab)
		if ok != (len(tab.Marks) > 1) {
			t.Fatalf("CanRepair(%q) = %d, %v", tab.Marks, repair, ok)
		}
		if ok && (!repairsByHand(tab, all, repair) || repairsByHand(tab, all, repair+1)) {
			t.Fatalf("CanRepair(%q) = %d", tab.Marks, repair)
		}
	}
}

// messageByMistakes reads a signal word by word, letter by letter.
func messageByMistakes(tab impl.Table, all map[string]map[string]int, s string) (string, int) {
	if s == "" {
		return "", 0
	}
	words, sum := []string{}, 0
	for _, word := range strings.Split(s, "/") {
		m := ""
		for _, marks := range strings.Split(word, " ") {
			best := 0
			for letter := range tab.Marks {
				if all[marks][tab.Marks[letter]] < all[marks][tab.Marks[best]] {
					best = letter
				}
			}
			m += "abcdefghij"[best : best+1]
			sum += all[marks][tab.Marks[best]]
		}
		words = append(words, m)
	}
	return strings.Join(words, " "), sum
}

func TestSignalsAreReadWithMistakes(t *testing.T) {
	all := allDistancesByHand()
	texts := append(append(textsOf(".- /", 6), signalsForLines()...), ". -/.-/--- .", strings.TrimSuffix(strings.Repeat("----- ", 12), " "), "...../...../...../...../...../.....")
	for _, tab := range tablesForBare() {
		for _, s := range texts {
			want, least, is := "", 0, isSignalByHand(s)
			if is {
				want, least = messageByMistakes(tab, all, s)
			}
			m, sum, ok := impl.ReadWithMistakes(tab, s)
			if ok != is || m != want || sum != least {
				t.Fatalf("ReadWithMistakes(%q, %q) = %q, %d, %v, not %q, %d", tab.Marks, s, m, sum, ok, want, least)
			}
			if valid, _ := impl.IsMessage(tab, m); ok && !valid {
				t.Fatalf("ReadWithMistakes(%q, %q) = %q is no message", tab.Marks, s, m)
			}
		}
	}
}

func TestSignalsWithoutMistakesAreReadAsTheyWereSent(t *testing.T) {
	for _, tab := range tablesForMessages() {
		for _, m := range append(longMessages(tab), "", "a", "a a", "aa a") {
			s, _ := impl.EncodeMessage(tab, m)
			if read, sum, ok := impl.ReadWithMistakes(tab, s); !ok || read != m || sum != 0 {
				t.Errorf("ReadWithMistakes(%q, %q) = %q, %d, %v, not %q", tab.Marks, s, read, sum, ok, m)
			}
		}
	}
	tab := table("...", "---")
	for s, want := range map[string]string{"..-/.-": "a a", "--- .-- ..": "bba", "-/.-.-.": "b a"} {
		if m, _, ok := impl.ReadWithMistakes(tab, s); !ok || m != want {
			t.Errorf("ReadWithMistakes(%q) = %q, %v", s, m, ok)
		}
	}
	if m, sum, ok := impl.ReadWithMistakes(tab, "-/..-/----- ."); !ok || m != "b a ba" || sum != 2+1+2+2 {
		t.Errorf("ReadWithMistakes = %q, %d, %v", m, sum, ok)
	}
}

func TestReadWithMistakesFails(t *testing.T) {
	for _, tab := range append(tablesForMessages(), tablesThatAreNone()...) {
		for _, s := range append(notSignals(), "-.-.-.", ".-/a", "·") {
			if m, sum, ok := impl.ReadWithMistakes(tab, s); ok || m != "" || sum != 0 {
				t.Errorf("ReadWithMistakes(%.20q) = %q, %d, %v", s, m, sum, ok)
			}
		}
	}
	for _, tab := range tablesThatAreNone() {
		for _, s := range []string{"", ".", ".-/."} {
			if m, sum, ok := impl.ReadWithMistakes(tab, s); ok || m != "" || sum != 0 {
				t.Errorf("ReadWithMistakes of no Table, %q = %q, %d, %v", s, m, sum, ok)
			}
		}
	}
}

func TestJoinedAndSplitLettersAreThoseByHand(t *testing.T) {
	for _, tab := range append(tablesForMistakes(), manyTables()...) {
		want := [][3]int{}
		split := make([][][2]int, len(tab.Marks))
		for i, first := range tab.Marks {
			for j, second := range tab.Marks {
				for k, third := range tab.Marks {
					if first+second == third {
						want = append(want, [3]int{i, j, k})
						split[k] = append(split[k], [2]int{i, j})
					}
				}
			}
		}
		if triples, ok := impl.JoinedLetters(tab); !ok || !slices.Equal(triples, want) {
			t.Fatalf("JoinedLetters(%q) = %v, %v, not %v", tab.Marks, triples, ok, want)
		}
		for letter := range tab.Marks {
			if pairs, ok := impl.SplitLetters(tab, letter); !ok || !slices.Equal(pairs, split[letter]) {
				t.Fatalf("SplitLetters(%q, %d) = %v, %v, not %v", tab.Marks, letter, pairs, ok, split[letter])
			}
		}
	}
}

func TestJoinedLettersThatAreWrittenOut(t *testing.T) {
	// Joined marks may be those of a letter that comes earlier, and of one letter twice.
	tab := table("....", "..", ".", "...", "-", ".-", "-----")
	triples, ok := impl.JoinedLetters(tab)
	if !ok || !slices.Equal(triples, [][3]int{{1, 1, 0}, {1, 2, 3}, {2, 1, 3}, {2, 2, 1}, {2, 3, 0}, {2, 4, 5}, {3, 2, 0}}) {
		t.Errorf("JoinedLetters = %v, %v", triples, ok)
	}
	for letter, want := range [][][2]int{{{1, 1}, {2, 3}, {3, 2}}, {{2, 2}}, {}, {{1, 2}, {2, 1}}, {}, {{2, 4}}, {}} {
		if pairs, ok := impl.SplitLetters(tab, letter); !ok || !slices.Equal(pairs, want) {
			t.Errorf("SplitLetters(%d) = %v, %v", letter, pairs, ok)
		}
	}
}

func TestEvenTablesPartTurnedMarks(t *testing.T) {
	for _, tab := range append(tablesForMistakes(), manyTables()...) {
		fits := true
		for _, marks := range tab.Marks {
			fits = fits && len(marks) < 5
		}
		even, ok := impl.EvenTable(tab)
		if ok != fits || !fits && len(even.Marks) != 0 || fits && (len(even.Marks) != len(tab.Marks) || !impl.IsTable(even)) {
			t.Fatalf("EvenTable(%q) = %q, %v", tab.Marks, even.Marks, ok)
		}
		for i, marks := range even.Marks {
			if len(marks) != len(tab.Marks[i])+1 || !strings.HasPrefix(marks, tab.Marks[i]) || strings.Count(marks, "-")%2 != 0 {
				t.Fatalf("EvenTable(%q) = %q", tab.Marks, even.Marks)
			}
			for j, other := range even.Marks {
				if distance, _ := impl.MarkDistance(marks, other); slices.Contains(turnedByHand(tab.Marks[i]), tab.Marks[j]) && distance < 2 {
					t.Fatalf("EvenTable(%q) = %q, %d and %d are %d apart", tab.Marks, even.Marks, i, j, distance)
				}
			}
		}
	}
}

func TestEvenTablesThatAreWrittenOut(t *testing.T) {
	for _, x := range []struct{ tab, want impl.Table }{
		{table("."), table("..")}, {table("-"), table("--")}, {table("----", "...."), table("----.", ".....")}, {table("---.", ".-"), table("---.-", ".--")}, {table(".", ".."), table("..", "...")}, {table("-", "--", "."), table("--", "--.", "..")},
		{table("....."), impl.Table{}}, {table("-----"), impl.Table{}}, {table(".", "-.-.-"), impl.Table{}}, {table("-.-..", "-"), impl.Table{}},
	} {
		even, ok := impl.EvenTable(x.tab)
		if ok != (len(x.want.Marks) > 0) || !slices.Equal(even.Marks, x.want.Marks) {
			t.Errorf("EvenTable(%q) = %q, %v", x.tab.Marks, even.Marks, ok)
		}
	}
}

func TestSafeSubsetsAreThoseByHand(t *testing.T) {
	all := allDistancesByHand()
	for _, tab := range append(tablesForMistakes(), manyTables()...) {
		want, safe := []int{}, true
		for letter, marks := range tab.Marks {
			far := true
			for _, before := range want {
				far = far && all[marks][tab.Marks[before]] > 1
			}
			if far {
				want = append(want, letter)
			}
			safe = safe && far
		}
		subset, ok := impl.SafeSubset(tab)
		if !ok || !slices.Equal(subset, want) {
			t.Fatalf("SafeSubset(%q) = %v, %v, not %v", tab.Marks, subset, ok, want)
		}
		if is, _ := impl.IsSafe(tab); is != safe || is != (len(subset) == len(tab.Marks)) {
			t.Fatalf("IsSafe(%q) = %v, but SafeSubset %v", tab.Marks, is, subset)
		}
	}
	for _, x := range []struct {
		tab  impl.Table
		want []int
	}{
		{table(".", "-", "..", "--", "..."), []int{0, 3, 4}}, {table(".", "..", "...", "....", "....."), []int{0, 2, 4}}, {table("..", "...", ".", "-"), []int{0, 3}}, {table("..", "--", "....", "----"), []int{0, 1, 2, 3}},
	} {
		if subset, ok := impl.SafeSubset(x.tab); !ok || !slices.Equal(subset, x.want) {
			t.Errorf("SafeSubset(%q) = %v, %v", x.tab.Marks, subset, ok)
		}
	}
}

// stepsByHand returns how many single mistakes part two letters of a Table if each one has to
// lead to a letter, or a greater number than all such if none do.
func stepsByHand(tab impl.Table, all map[string]map[string]int) [impl.MaxTable][impl.MaxTable]int {
	n := len(tab.Marks)
	steps := [impl.MaxTable][impl.MaxTable]int{}
	for i := range n {
		for j := range n {
			steps[i][j] = all[tab.Marks[i]][tab.Marks[j]]
			if steps[i][j] > 1 {
				steps[i][j] = 100
			}
		}
	}
	for between := range n {
		for i := range n {
			for j := range n {
				steps[i][j] = min(steps[i][j], steps[i][between]+steps[between][j])
			}
		}
	}
	return steps
}

// chainByHand goes on, letter by letter, to the least one that has one step less before it.
func chainByHand(steps [impl.MaxTable][impl.MaxTable]int, from, to int) []int {
	if steps[from][to] >= 100 {
		return nil
	}
	chain := []int{from}
	for at := from; at != to; chain = append(chain, at) {
		next := 0
		for steps[at][next] != 1 || steps[next][to] != steps[at][to]-1 {
			next++
		}
		at = next
	}
	return chain
}

func TestMistakeChainsAreTheFirstOfTheShortest(t *testing.T) {
	all := allDistancesByHand()
	for _, tab := range append(tablesForMistakes(), manyTables()...) {
		steps := stepsByHand(tab, all)
		for from := range tab.Marks {
			for to := range tab.Marks {
				want := chainByHand(steps, from, to)
				chain, ok := impl.MistakeChain(tab, from, to)
				if ok != (len(want) > 0) || !slices.Equal(chain, want) {
					t.Fatalf("MistakeChain(%q, %d, %d) = %v, %v, not %v", tab.Marks, from, to, chain, ok, want)
				}
			}
		}
	}
}

func TestMistakeChainsThatAreWrittenOut(t *testing.T) {
	for _, x := range []struct {
		tab      impl.Table
		from, to int
		want     []int
	}{
		{table("."), 0, 0, []int{0}}, {table(".", "..."), 1, 1, []int{1}}, {table(".", "..."), 0, 1, nil}, {table(".", "..."), 1, 0, nil}, {table(".", "..", "..."), 2, 0, []int{2, 1, 0}},
		{table(".", "-", "--", ".-"), 0, 2, []int{0, 1, 2}}, {table(".", ".-", "--", "-"), 0, 2, []int{0, 1, 2}}, {table("..", "--", "-.", ".-"), 0, 1, []int{0, 2, 1}}, {table("--", "..", ".-", "-."), 1, 0, []int{1, 2, 0}},
		{table("..", ".", "-", "--", "-.", ".---"), 0, 3, []int{0, 4, 3}}, {table("..", ".", "-", "--", "-.", ".---"), 5, 0, nil}, {table("..", ".", "-", "--", "-.", ".---"), 0, 5, nil}, {table("..", ".", "-", "--", "-.", ".---"), 5, 5, []int{5}},
		// The chain to a letter at the end need not be by the least letter that is next to the start.
		{table(".", "..", "-", "--", "---", "----"), 0, 5, []int{0, 2, 3, 4, 5}}, {table(".....", "....", "...", "..", ".", "-", "--", "---", "----", "-----"), 0, 9, []int{0, 1, 2, 3, 4, 5, 6, 7, 8, 9}},
	} {
		chain, ok := impl.MistakeChain(x.tab, x.from, x.to)
		if ok != (len(x.want) > 0) || !slices.Equal(chain, x.want) {
			t.Errorf("MistakeChain(%q, %d, %d) = %v, %v, not %v", x.tab.Marks, x.from, x.to, chain, ok, x.want)
		}
	}
}

func TestMistakeFunctionsFailForOtherTables(t *testing.T) {
	for _, tab := range tablesThatAreNone() {
		for _, marks := range []string{"", ".", ".-.-.", "x"} {
			if letters, distance, ok := impl.NearestLetters(tab, marks); ok || len(letters) != 0 || distance != 0 {
				t.Errorf("NearestLetters = %v, %d, %v", letters, distance, ok)
			}
		}
		checkLetterFailures(t, tab, 0)
		checkLetterFailures(t, tab, 1)
		least, one := impl.LeastDistance(tab)
		pairs, two := impl.ClosestPairs(tab)
		safe, three := impl.IsSafe(tab)
		repair, four := impl.CanRepair(tab)
		if one || two || three || four || least != 0 || len(pairs) != 0 || safe || repair != 0 {
			t.Errorf("%d, %v, %v, %d", least, pairs, safe, repair)
		}
		triples, one := impl.JoinedLetters(tab)
		even, two := impl.EvenTable(tab)
		subset, three := impl.SafeSubset(tab)
		if one || two || three || len(triples) != 0 || len(even.Marks) != 0 || len(subset) != 0 {
			t.Errorf("%v, %.20q, %v", triples, even.Marks, subset)
		}
	}
}

// checkLetterFailures checks all functions that take a letter which is none.
func checkLetterFailures(t *testing.T, tab impl.Table, other int) {
	t.Helper()
	for kind := range 3 {
		if letters, ok := impl.LettersBy(tab, other, kind); ok || len(letters) != 0 {
			t.Errorf("LettersBy(%d, %d) = %v, %v", other, kind, letters, ok)
		}
	}
	if pairs, ok := impl.SplitLetters(tab, other); ok || len(pairs) != 0 {
		t.Errorf("SplitLetters(%d) = %v, %v", other, pairs, ok)
	}
	for _, ends := range [][2]int{{other, 0}, {0, other}, {other, other}} {
		if chain, ok := impl.MistakeChain(tab, ends[0], ends[1]); ok || len(chain) != 0 {
			t.Errorf("MistakeChain(%v) = %v, %v", ends, chain, ok)
		}
	}
}

func TestMistakeFunctionsFailForOtherLetters(t *testing.T) {
	for _, tab := range tablesForBare() {
		for _, other := range otherPlaces(tab) {
			checkLetterFailures(t, tab, other)
		}
		for _, marks := range otherMarks() {
			if letters, distance, ok := impl.NearestLetters(tab, marks); ok || len(letters) != 0 || distance != 0 {
				t.Errorf("NearestLetters(%.20q) = %v, %d, %v", marks, letters, distance, ok)
			}
		}
		for _, kind := range []int{-1, 3, 4, math.MinInt, math.MaxInt, 1 << 32} {
			if letters, ok := impl.LettersBy(tab, 0, kind); ok || len(letters) != 0 {
				t.Errorf("LettersBy of the kind %d = %v, %v", kind, letters, ok)
			}
		}
	}
}

func TestMistakeFunctionsModifyNothingAndShareNothing(t *testing.T) {
	marks := []string{".", "-", ".-", "..", "--.", ".."}
	tab := impl.Table{Marks: marks[:5]}
	for range 2 {
		near, _, _ := impl.NearestLetters(tab, "")
		by, _ := impl.LettersBy(tab, 0, 2)
		subset, _ := impl.SafeSubset(tab)
		chain, _ := impl.MistakeChain(tab, 1, 3)
		pairs, _ := impl.ClosestPairs(tab)
		triples, _ := impl.JoinedLetters(tab)
		split, _ := impl.SplitLetters(tab, 2)
		even, _ := impl.EvenTable(tab)
		if !slices.Equal(near, []int{0, 1}) || !slices.Equal(by, []int{2, 3}) || !slices.Equal(subset, []int{0, 4}) || !slices.Equal(chain, []int{1, 0, 3}) {
			t.Fatal(near, by, subset, chain)
		}
		if !slices.Equal(pairs, [][2]int{{0, 1}, {0, 2}, {0, 3}, {1, 2}, {2, 3}}) || !slices.Equal(triples, [][3]int{{0, 0, 3}, {0, 1, 2}}) || !slices.Equal(split, [][2]int{{0, 1}}) || !slices.Equal(even.Marks, []string{"..", "--", ".--", "...", "--.."}) {
			t.Fatal(pairs, triples, split, even)
		}
		// What is written into results must not be seen by the next calls.
		for _, list := range [][]int{near, by, subset, chain} {
			list[0] = 9
		}
		pairs[0], triples[0], split[0], even.Marks[0] = [2]int{9, 9}, [3]int{9, 9, 9}, [2]int{9, 9}, "9"
		impl.LeastDistance(tab)
		impl.IsSafe(tab)
		impl.CanRepair(tab)
		impl.ReadWithMistakes(tab, ". -/---")
		if !slices.Equal(marks, []string{".", "-", ".-", "..", "--.", ".."}) {
			t.Fatal("arguments are modified", marks)
		}
	}
}
