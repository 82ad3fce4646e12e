package tests

import (
	"math"
	"math/big"
	"slices"
	"strings"
	"testing"

	"loop.example/g01248/impl"
)

// nodeTexts has the texts of all nodes in the order of their nodes: shorter ones first, and a dot
// before a dash.
func nodeTexts() []string { return textsOf(".-", impl.MaxMarks) }

func nodeByHand(marks string) int { return 1 + slices.Index(nodeTexts(), marks) }

// nodesByHand returns the nodes of some texts, in their order.
func nodesByHand(texts []string) []int {
	nodes := []int{}
	for _, text := range texts {
		nodes = append(nodes, nodeByHand(text))
	}
	return nodes
}

// gapTextsByHand returns all texts above those of a Table that no letter has, but the empty one.
func gapTextsByHand(tab impl.Table) []string {
	gaps := []string{}
	for _, text := range nodeTexts()[1:] {
		isBelow := func(marks string) bool { return strings.HasPrefix(marks, text) }
		if slices.ContainsFunc(tab.Marks, isBelow) && !slices.Contains(tab.Marks, text) {
			gaps = append(gaps, text)
		}
	}
	return gaps
}

// joinByHand returns the longest text with which two others begin.
func joinByHand(a, b string) string {
	join := ""
	for _, text := range nodeTexts() {
		if strings.HasPrefix(a, text) && strings.HasPrefix(b, text) {
			join = text
		}
	}
	return join
}

// waysByHand goes from each text step by step to one with one mark more or less at its end.
func waysByHand() map[string]map[string]int {
	all := map[string]map[string]int{}
	for _, from := range nodeTexts() {
		ways := map[string]int{from: 0}
		for queue := []string{from}; len(queue) > 0; queue = queue[1:] {
			next := []string{queue[0] + ".", queue[0] + "-"}
			if queue[0] != "" {
				next = append(next, queue[0][:len(queue[0])-1])
			}
			for _, text := range next {
				if _, ok := ways[text]; !ok && len(text) <= impl.MaxMarks {
					ways[text] = ways[queue[0]] + 1
					queue = append(queue, text)
				}
			}
		}
		all[from] = ways
	}
	return all
}

// tablesForTrees has, beside other Tables, grown ones and ones with gaps, in several orders.
func tablesForTrees() []impl.Table {
	return append(append(tablesForMistakes(), tablesForBest()...),
		table(".", "..", "...", "....", "....."), table(".....", "....", "...", "..", "."), table("-", "--", "---", "----", "-----"), table("..", "...", "....", "....."), table(".", "...", "....", "....."), table(".", "....."), table("-----", "-"),
		table("-.-.-", ".-.-."), table(".----", "-....", "-"), table("..", "--", ".-", "-."), table("..", "--", ".-", "-.", "."), table("..", "--", ".-", "-.", "-", "."), table(".-.-.", ".", ".-.-", ".-", ".-."),
		table("-----", "----.", "---..", "--...", "-....", ".....", "....-", "...--", "..---", ".----"), table("--.", "-.", "--", "-", ".", "..", "...", "..-", "--.-", "--.-."),
	)
}

func TestNodesAndMarksUndoEachOther(t *testing.T) {
	texts := nodeTexts()
	if len(texts) != impl.Nodes || impl.Nodes != 63 {
		t.Fatal(len(texts), impl.Nodes)
	}
	for i, text := range texts {
		node, one := impl.NodeOfMarks(text)
		marks, two := impl.MarksOfNode(i + 1)
		if !one || !two || node != i+1 || marks != text {
			t.Errorf("%q is %d: %d, %v, %q, %v", text, i+1, node, one, marks, two)
		}
		if len(text) == impl.MaxMarks {
			continue
		}
		dot, one := impl.NodeOfMarks(text + ".")
		dash, two := impl.NodeOfMarks(text + "-")
		if !one || !two || dot != 2*node || dash != 2*node+1 {
			t.Errorf("below %d: %d, %v, %d, %v", node, dot, one, dash, two)
		}
	}
	for text, want := range map[string]int{"": 1, ".": 2, "-": 3, "..": 4, ".-": 5, "-.": 6, "--": 7, "...": 8, "-.-": 13, "----": 31, ".....": 32, ".-.-.": 42, "-.-.-": 53, "----.": 62, "-----": 63} {
		node, one := impl.NodeOfMarks(text)
		marks, two := impl.MarksOfNode(want)
		if !one || !two || node != want || marks != text {
			t.Errorf("%q is %d: %d, %v, %q, %v", text, want, node, one, marks, two)
		}
	}
}

func TestNodesAndMarksFail(t *testing.T) {
	for _, other := range append(otherMarks(), "-.....", "------", "......-") {
		if node, ok := impl.NodeOfMarks(other); ok || node != 0 {
			t.Errorf("NodeOfMarks(%.20q) = %d, %v", other, node, ok)
		}
	}
	for _, node := range []int{0, -1, -2, -63, 64, 65, 127, 128, math.MinInt, math.MaxInt, 1 << 32, 1<<32 + 1, -1 << 32} {
		if marks, ok := impl.MarksOfNode(node); ok || marks != "" {
			t.Errorf("MarksOfNode(%d) = %q, %v", node, marks, ok)
		}
	}
}

func checkNodes(t *testing.T, tab impl.Table, filled, gaps []int) {
	t.Helper()
	gotFilled, one := impl.FilledNodes(tab)
	gotGaps, two := impl.GapNodes(tab)
	grown, three := impl.IsGrown(tab)
	if !one || !two || !three || !slices.Equal(gotFilled, filled) || !slices.Equal(gotGaps, gaps) || grown != (len(gaps) == 0) {
		t.Errorf("%q: %v, %v, %v, %v, %v, %v, not %v, %v", tab.Marks, gotFilled, one, gotGaps, two, grown, three, filled, gaps)
	}
}

func TestFilledNodesAndGapsAreNodesOfMarks(t *testing.T) {
	for _, tab := range append(tablesForTrees(), manyTables()...) {
		filled := nodesByHand(tab.Marks)
		slices.Sort(filled)
		checkNodes(t, tab, filled, nodesByHand(gapTextsByHand(tab)))
	}
}

func TestFilledNodesAndGapsThatAreWrittenOut(t *testing.T) {
	for _, x := range []struct {
		tab          impl.Table
		filled, gaps []int
	}{
		{table("."), []int{2}, nil}, {table("-"), []int{3}, nil}, {table("..."), []int{8}, []int{2, 4}}, {table(".-."), []int{10}, []int{2, 5}}, {table("....."), []int{32}, []int{2, 4, 8, 16}}, {table("-----"), []int{63}, []int{3, 7, 15, 31}},
		{table("-", "."), []int{2, 3}, nil}, {table(".-", "-", "."), []int{2, 3, 5}, nil}, {table(".-", "-"), []int{3, 5}, []int{2}}, {table("--", ".-"), []int{5, 7}, []int{2, 3}}, {table(".....", "....-"), []int{32, 33}, []int{2, 4, 8, 16}}, {table("-----", ".....", "..", "---"), []int{4, 15, 32, 63}, []int{2, 3, 7, 8, 16, 31}},
		{table("-----", "----", "---", "--", "-"), []int{3, 7, 15, 31, 63}, nil}, {table("-----", "----", "--", "-"), []int{3, 7, 31, 63}, []int{15}}, {table("-----", "----", "---", "--"), []int{7, 15, 31, 63}, []int{3}},
		{table(".", "-", "..", ".-", "-.", "--", "...", "..-", ".-.", ".--"), []int{2, 3, 4, 5, 6, 7, 8, 9, 10, 11}, nil},
		{table(".--", ".-.", "..-", "...", "--", "-.", ".-", "..", "-", "....."), []int{3, 4, 5, 6, 7, 8, 9, 10, 11, 32}, []int{2, 16}},
	} {
		checkNodes(t, x.tab, x.filled, x.gaps)
	}
}

func TestJoinNodesAndWays(t *testing.T) {
	ways := waysByHand()
	for _, tab := range tablesForTrees() {
		for i, a := range tab.Marks {
			for j, b := range tab.Marks {
				join, one := impl.JoinNode(tab, i, j)
				way, two := impl.WayBetween(tab, i, j)
				above := joinByHand(a, b)
				if !one || !two || join != nodeByHand(above) || way != ways[a][b] {
					t.Fatalf("%q, %d, %d: %d, %v, %d, %v, not %q, %d", tab.Marks, i, j, join, one, way, two, above, ways[a][b])
				}
				if way != len(a)+len(b)-2*len(above) {
					t.Fatalf("the way from %q to %q is %d, but does not lead by %q", a, b, way, above)
				}
			}
		}
	}
}

func TestJoinNodesAndWaysOfAllMarks(t *testing.T) {
	ways := waysByHand()
	texts := nodeTexts()[1:]
	for _, a := range texts {
		for _, b := range texts {
			tab, i, j := table(a, b), 0, 1
			if a == b {
				tab, j = table(a), 0
			}
			join, one := impl.JoinNode(tab, i, j)
			way, two := impl.WayBetween(tab, i, j)
			if !one || !two || join != nodeByHand(joinByHand(a, b)) || way != ways[a][b] {
				t.Fatalf("%q and %q: %d, %v, %d, %v", a, b, join, one, way, two)
			}
		}
	}
}

func TestJoinNodesAndWaysThatAreWrittenOut(t *testing.T) {
	for _, x := range []struct {
		a, b      string
		join, way int
	}{
		{".", "-", 1, 2}, {".", ".-", 2, 1}, {"-", ".-", 1, 3}, {".", "....-", 2, 4}, {".....", "-----", 1, 10}, {".....", "....-", 16, 2}, {"-.-.-", "-.--", 13, 3}, {"--.", "--.--", 14, 2}, {"..-", "..--", 9, 1}, {"----.", "-----", 31, 2}, {".-", "..", 2, 2}, {"-.", ".....", 1, 7},
	} {
		for _, order := range [][2]int{{0, 1}, {1, 0}} {
			tab := table(x.a, x.b)
			join, one := impl.JoinNode(tab, order[0], order[1])
			way, two := impl.WayBetween(tab, order[0], order[1])
			if !one || !two || join != x.join || way != x.way {
				t.Errorf("%q, %v: %d, %v, %d, %v, not %d, %d", tab.Marks, order, join, one, way, two, x.join, x.way)
			}
		}
	}
	tab := table("-", ".....", "-.-")
	for letter, want := range []int{3, 32, 13} {
		join, one := impl.JoinNode(tab, letter, letter)
		way, two := impl.WayBetween(tab, letter, letter)
		if !one || !two || join != want || way != 0 {
			t.Errorf("%d and itself: %d, %v, %d, %v", letter, join, one, way, two)
		}
	}
}

func TestJoinNodesAndWaysFail(t *testing.T) {
	check := func(tab impl.Table, i, j int) {
		t.Helper()
		join, one := impl.JoinNode(tab, i, j)
		way, two := impl.WayBetween(tab, i, j)
		if one || two || join != 0 || way != 0 {
			t.Errorf("%.20q, %d, %d: %d, %v, %d, %v", tab.Marks, i, j, join, one, way, two)
		}
	}
	for _, tab := range tablesForMessages() {
		for _, other := range otherPlaces(tab) {
			check(tab, 0, other)
			check(tab, other, 0)
			check(tab, len(tab.Marks)-1, other)
			check(tab, other, len(tab.Marks)-1)
			check(tab, other, other)
		}
	}
	for _, none := range tablesThatAreNone() {
		check(none, 0, 0)
		check(none, 0, 1)
		check(none, 1, 0)
	}
}

func TestWayOfMessageIsTheSumOfWays(t *testing.T) {
	ways := waysByHand()
	for _, tab := range append(tablesForMessages(), table("-----", ".....", "-"), table(".-.-.", ".-", "--")) {
		for _, m := range append(messagesByHand(tab, 4), longMessages(tab)...) {
			want, before := 0, ""
			for _, letter := range strings.ReplaceAll(m, " ", "") {
				marks := tab.Marks[letter-'a']
				if before != "" {
					want += ways[before][marks]
				}
				before = marks
			}
			if got, ok := impl.WayOfMessage(tab, m); !ok || got != want {
				t.Fatalf("WayOfMessage(%q, %q) = %d, %v, not %d", tab.Marks, m, got, ok, want)
			}
		}
	}
}

func TestWaysOfMessagesThatAreWrittenOut(t *testing.T) {
	tab := table(".", "-", ".-")
	far := table(".....", "-----")
	for _, x := range []struct {
		tab  impl.Table
		m    string
		want int
	}{
		{tab, "", 0}, {tab, "a", 0}, {tab, "c", 0}, {tab, "aa", 0}, {tab, "ab", 2}, {tab, "acb", 4}, {tab, "bca", 4}, {tab, "a c b", 4}, {tab, "ac b", 4}, {tab, "a a", 0}, {tab, "cbc", 6}, {tab, "ab ba", 4}, {tab, "cc c", 0},
		{far, "", 0}, {far, "abababababab", 110}, {far, "aaaaaabbbbbb", 10}, {far, "a b a b a b", 50}, {far, "ab", 10}, {far, "b a", 10}, {table("-.-.-"), "aaaaaaaaaaaa", 0},
	} {
		if got, ok := impl.WayOfMessage(x.tab, x.m); !ok || got != x.want {
			t.Errorf("WayOfMessage(%q, %q) = %d, %v, not %d", x.tab.Marks, x.m, got, ok, x.want)
		}
	}
}

func TestWayOfMessageFails(t *testing.T) {
	for _, tab := range tablesForMessages() {
		for _, m := range notMessages(tab) {
			if got, ok := impl.WayOfMessage(tab, m); ok || got != 0 {
				t.Errorf("WayOfMessage(%q, %.20q) = %d, %v", tab.Marks, m, got, ok)
			}
		}
	}
	for _, none := range tablesThatAreNone() {
		for _, m := range []string{"", "a", "ab", "a b", " "} {
			if got, ok := impl.WayOfMessage(none, m); ok || got != 0 {
				t.Errorf("WayOfMessage(%.20q, %q) = %d, %v", none.Marks, m, got, ok)
			}
		}
	}
}

func TestLettersBelowAreInTheOrderOfNodes(t *testing.T) {
	texts := nodeTexts()
	for _, tab := range tablesForTrees() {
		for _, marks := range texts {
			want := []int{}
			for _, text := range texts {
				if letter := slices.Index(tab.Marks, text); letter >= 0 && strings.HasPrefix(text, marks) {
					want = append(want, letter)
				}
			}
			if got, ok := impl.LettersBelow(tab, marks); !ok || !slices.Equal(got, want) {
				t.Fatalf("LettersBelow(%q, %q) = %v, %v, not %v", tab.Marks, marks, got, ok, want)
			}
		}
	}
	tab := table("--", ".-.", "-", ".....", "..", ".-")
	for marks, want := range map[string][]int{"": {2, 4, 5, 0, 1, 3}, ".": {4, 5, 1, 3}, "-": {2, 0}, ".-": {5, 1}, "..": {4, 3}, "....": {3}, ".....": {3}, "....-": {}, "-.": {}, "--": {0}, "---": {}, ".-.": {1}} {
		if got, ok := impl.LettersBelow(tab, marks); !ok || !slices.Equal(got, want) {
			t.Errorf("LettersBelow(%q) = %v, %v, not %v", marks, got, ok, want)
		}
	}
}

func TestLettersBelowFails(t *testing.T) {
	for _, tab := range tablesForMessages() {
		for _, other := range append(otherMarks(), "------") {
			if got, ok := impl.LettersBelow(tab, other); ok || len(got) != 0 {
				t.Errorf("LettersBelow(%q, %.20q) = %v, %v", tab.Marks, other, got, ok)
			}
		}
	}
	for _, none := range tablesThatAreNone() {
		for _, marks := range []string{"", ".", "-----", "......"} {
			if got, ok := impl.LettersBelow(none, marks); ok || len(got) != 0 {
				t.Errorf("LettersBelow(%.20q, %q) = %v, %v", none.Marks, marks, got, ok)
			}
		}
	}
}

func TestDepthCounts(t *testing.T) {
	for _, tab := range tablesForTrees() {
		want := [6]int{}
		for depth := range want {
			for _, marks := range tab.Marks {
				if len(marks) == depth {
					want[depth]++
				}
			}
		}
		if got, ok := impl.DepthCounts(tab); !ok || got != want {
			t.Errorf("DepthCounts(%q) = %v, %v, not %v", tab.Marks, got, ok, want)
		}
	}
	for _, x := range []struct {
		tab  impl.Table
		want [6]int
	}{
		{table("-"), [6]int{0, 1, 0, 0, 0, 0}}, {table("-----"), [6]int{0, 0, 0, 0, 0, 1}}, {table(".", "-", ".-"), [6]int{0, 2, 1, 0, 0, 0}}, {table("..-", "....", "-", "-----", ".....", "---"), [6]int{0, 1, 0, 2, 1, 2}},
		{table(".", "-", "..", ".-", "-.", "--", "...", "..-", ".-.", ".--"), [6]int{0, 2, 4, 4, 0, 0}}, {table(".....", "....-", "...-.", "...--", "..-..", "..-.-", "..--.", "..---", ".-...", "-----"), [6]int{0, 0, 0, 0, 0, 10}},
	} {
		if got, ok := impl.DepthCounts(x.tab); !ok || got != x.want {
			t.Errorf("DepthCounts(%q) = %v, %v, not %v", x.tab.Marks, got, ok, x.want)
		}
	}
}

func TestTreesOfNoTableFail(t *testing.T) {
	for _, none := range tablesThatAreNone() {
		filled, one := impl.FilledNodes(none)
		grown, two := impl.IsGrown(none)
		gaps, three := impl.GapNodes(none)
		counts, four := impl.DepthCounts(none)
		sorted, letters, five := impl.SortTable(none)
		if one || two || three || four || five || len(filled) != 0 || grown || len(gaps) != 0 || counts != [6]int{} || len(sorted.Marks) != 0 || len(letters) != 0 {
			t.Errorf("%.20q: %v, %v, %v, %v, %v, %v", none.Marks, filled, grown, gaps, counts, sorted, letters)
		}
		for m := -1; m <= impl.MaxMarks+1; m++ {
			if rank, ok := impl.RankOfTable(none, m); ok || rank != 0 {
				t.Errorf("RankOfTable(%.20q, %d) = %d, %v", none.Marks, m, rank, ok)
			}
		}
	}
}

// tablesInOrderByHand returns all Tables with a number of letters of at most m marks, in order:
// each letter goes through the texts in the order of their nodes, the last one the fastest.
func tablesInOrderByHand(letters, m int) [][]string {
	tables := [][]string{{}}
	for range letters {
		longer := [][]string{}
		for _, marks := range tables {
			for _, text := range textsOf(".-", m)[1:] {
				if !slices.Contains(marks, text) {
					longer = append(longer, append(slices.Clone(marks), text))
				}
			}
		}
		tables = longer
	}
	return tables
}

// countByHand counts the choices of texts for each letter.
func countByHand(letters, m int) *big.Int {
	count := big.NewInt(1)
	for taken := range letters {
		count.Mul(count, big.NewInt(int64(max(0, len(textsOf(".-", m))-1-taken))))
	}
	return count
}

// rankByHand adds, for each letter, all Tables that have a text before that of the letter there,
// and are the same up to there.
func rankByHand(marks []string, m int) *big.Int {
	rank := big.NewInt(0)
	texts := textsOf(".-", m)[1:]
	for letter, own := range marks {
		behind := big.NewInt(1)
		for next := letter + 1; next < len(marks); next++ {
			behind.Mul(behind, big.NewInt(int64(len(texts)-next)))
		}
		for _, text := range texts[:slices.Index(texts, own)] {
			if !slices.Contains(marks[:letter], text) {
				rank.Add(rank, behind)
			}
		}
	}
	return rank
}

func checkRank(t *testing.T, marks []string, m int, want *big.Int) {
	t.Helper()
	rank, one := impl.RankOfTable(table(marks...), m)
	at, two := impl.TableAt(len(marks), m, int(want.Int64()))
	if !want.IsInt64() || !one || !two || int64(rank) != want.Int64() || !slices.Equal(at.Marks, marks) {
		t.Fatalf("%q, %d: %d, %v, %q, %v, not %v", marks, m, rank, one, at.Marks, two, want)
	}
}

func TestTablesHaveTheirRanksInOrder(t *testing.T) {
	for _, x := range [][2]int{{1, 1}, {2, 1}, {3, 1}, {10, 1}, {1, 2}, {2, 2}, {3, 2}, {4, 2}, {5, 2}, {6, 2}, {7, 2}, {10, 2}, {1, 3}, {2, 3}, {3, 3}, {4, 3}, {1, 4}, {2, 4}, {1, 5}, {2, 5}} {
		letters, m := x[0], x[1]
		tables := tablesInOrderByHand(letters, m)
		for rank, marks := range tables {
			checkRank(t, marks, m, big.NewInt(int64(rank)))
		}
		if count, ok := impl.CountTables(letters, m); !ok || count != len(tables) {
			t.Errorf("CountTables(%d, %d) = %d, %v, not %d", letters, m, count, ok, len(tables))
		}
		if at, ok := impl.TableAt(letters, m, len(tables)); ok || len(at.Marks) != 0 {
			t.Errorf("TableAt(%d, %d, %d) = %q, %v", letters, m, len(tables), at.Marks, ok)
		}
	}
}

func TestRanksOfLongerTables(t *testing.T) {
	for _, tab := range tablesForTrees() {
		longest := 0
		for _, marks := range tab.Marks {
			longest = max(longest, len(marks))
		}
		for m := range impl.MaxMarks + 1 {
			if m >= longest {
				checkRank(t, tab.Marks, m, rankByHand(tab.Marks, m))
			} else if rank, ok := impl.RankOfTable(tab, m); ok || rank != 0 {
				t.Fatalf("RankOfTable(%q, %d) = %d, %v", tab.Marks, m, rank, ok)
			}
		}
	}
}

func TestCountTables(t *testing.T) {
	for letters := 1; letters <= impl.MaxTable; letters++ {
		for m := 1; m <= impl.MaxMarks; m++ {
			want := countByHand(letters, m)
			if got, ok := impl.CountTables(letters, m); !ok || !want.IsInt64() || int64(got) != want.Int64() {
				t.Errorf("CountTables(%d, %d) = %d, %v, not %v", letters, m, got, ok, want)
			}
		}
	}
	for _, x := range [][3]int{{1, 1, 2}, {2, 1, 2}, {3, 1, 0}, {4, 1, 0}, {10, 1, 0}, {1, 2, 6}, {2, 2, 30}, {5, 2, 720}, {6, 2, 720}, {7, 2, 0}, {8, 2, 0}, {10, 2, 0}, {1, 3, 14}, {10, 3, 3632428800}, {1, 5, 62}, {2, 5, 3782}, {10, 4, 30 * 29 * 28 * 27 * 26 * 25 * 24 * 23 * 22 * 21}, {10, 5, 62 * 61 * 60 * 59 * 58 * 57 * 56 * 55 * 54 * 53}} {
		if got, ok := impl.CountTables(x[0], x[1]); !ok || got != x[2] {
			t.Errorf("CountTables(%d, %d) = %d, %v, not %d", x[0], x[1], got, ok, x[2])
		}
	}
}

// compareByHand holds two Tables against each other node by node.
func compareByHand(a, b impl.Table) int {
	return slices.Compare(nodesByHand(a.Marks), nodesByHand(b.Marks))
}

func TestFirstAndLastRanksAndOnesBesideThem(t *testing.T) {
	for letters := 1; letters <= impl.MaxTable; letters++ {
		for m := 1; m <= impl.MaxMarks; m++ {
			count := int(countByHand(letters, m).Int64())
			if count > 0 {
				texts := textsOf(".-", m)[1:]
				checkRank(t, texts[:letters], m, big.NewInt(0))
				last := slices.Clone(texts[len(texts)-letters:])
				slices.Reverse(last)
				checkRank(t, last, m, big.NewInt(int64(count-1)))
			}
			for _, rank := range []int{-1, -2, -count, count, count + 1, 2*count + 1, math.MinInt, math.MaxInt, math.MinInt + count} {
				if at, ok := impl.TableAt(letters, m, rank); rank != 0 && (ok || len(at.Marks) != 0) {
					t.Errorf("TableAt(%d, %d, %d) = %q, %v", letters, m, rank, at.Marks, ok)
				}
			}
			if at, ok := impl.TableAt(letters, m, 0); ok != (count > 0) || len(at.Marks) != min(count, 1)*letters {
				t.Errorf("TableAt(%d, %d, 0) = %q, %v", letters, m, at.Marks, ok)
			}
		}
	}
}

func TestRanksOfAllSizesAreInOrder(t *testing.T) {
	for letters := 1; letters <= impl.MaxTable; letters++ {
		for m := 1; m <= impl.MaxMarks; m++ {
			count := int(countByHand(letters, m).Int64())
			for _, part := range []int{2, 3, 7, 10, 61, 997, 123457, 987654321} {
				rank := count / part
				if rank+1 >= count {
					continue
				}
				at, one := impl.TableAt(letters, m, rank)
				next, two := impl.TableAt(letters, m, rank+1)
				if !one || !two || !impl.IsTable(at) || !impl.IsTable(next) || compareByHand(at, next) >= 0 {
					t.Fatalf("%d letters, %d marks, %d: %q, %v, %q, %v", letters, m, rank, at.Marks, one, next.Marks, two)
				}
				checkRank(t, at.Marks, m, rankByHand(at.Marks, m))
				checkRank(t, next.Marks, m, big.NewInt(int64(rank+1)))
			}
		}
	}
}

func TestRanksThatAreWrittenOut(t *testing.T) {
	for _, x := range []struct {
		marks   []string
		m, rank int
	}{
		{[]string{"."}, 1, 0}, {[]string{"-"}, 1, 1}, {[]string{"-"}, 5, 1}, {[]string{"-----"}, 5, 61}, {[]string{".", "-"}, 1, 0}, {[]string{"-", "."}, 1, 1}, {[]string{".", "-"}, 2, 0}, {[]string{".", ".."}, 2, 1}, {[]string{"-", "."}, 2, 5}, {[]string{"-", ".."}, 2, 6}, {[]string{"--", "-."}, 2, 29}, {[]string{"-", "."}, 3, 13}, {[]string{"-", "."}, 5, 61},
		{[]string{".", "-", ".-"}, 2, 1}, {[]string{".-", "-", "."}, 2, 3*20 + 1*4}, {[]string{"--", "-.", ".-", "..", "-", "."}, 2, 719},
	} {
		checkRank(t, x.marks, x.m, big.NewInt(int64(x.rank)))
	}
}

func TestRanksFail(t *testing.T) {
	others := []int{0, -1, -2, -5, 6, 7, 10, 11, 63, 64, math.MinInt, math.MaxInt, 1 << 32, 1<<32 + 1, 1<<32 + 5}
	for _, m := range others {
		for _, tab := range tablesForMessages() {
			if rank, ok := impl.RankOfTable(tab, m); ok || rank != 0 {
				t.Errorf("RankOfTable(%q, %d) = %d, %v", tab.Marks, m, rank, ok)
			}
		}
		for _, letters := range append(others, 1, 2, 3) {
			count, one := impl.CountTables(letters, m)
			at, two := impl.TableAt(letters, m, 0)
			if one || two || count != 0 || len(at.Marks) != 0 {
				t.Errorf("%d letters, %d marks: %d, %v, %q, %v", letters, m, count, one, at.Marks, two)
			}
		}
	}
	for _, letters := range []int{0, -1, -2, -10, 11, 12, 62, 63, math.MinInt, math.MaxInt, 1 << 32, 1<<32 + 1, 1<<32 + 10} {
		for m := 1; m <= impl.MaxMarks; m++ {
			count, one := impl.CountTables(letters, m)
			if one || count != 0 {
				t.Errorf("CountTables(%d, %d) = %d, %v", letters, m, count, one)
			}
			for _, rank := range []int{0, 1, -1} {
				if at, ok := impl.TableAt(letters, m, rank); ok || len(at.Marks) != 0 {
					t.Errorf("TableAt(%d, %d, %d) = %q, %v", letters, m, rank, at.Marks, ok)
				}
			}
		}
	}
}

func TestSortTable(t *testing.T) {
	for _, tab := range append(tablesForTrees(), manyTables()...) {
		want, places := []string{}, []int{}
		for _, text := range nodeTexts() {
			if letter := slices.Index(tab.Marks, text); letter >= 0 {
				want, places = append(want, text), append(places, letter)
			}
		}
		sorted, letters, ok := impl.SortTable(tab)
		if !ok || !slices.Equal(sorted.Marks, want) || !slices.Equal(letters, places) {
			t.Fatalf("SortTable(%q) = %q, %v, %v, not %q, %v", tab.Marks, sorted.Marks, letters, ok, want, places)
		}
	}
	for _, x := range []struct {
		marks, want []string
		places      []int
	}{
		{[]string{"-.-"}, []string{"-.-"}, []int{0}}, {[]string{"-", "."}, []string{".", "-"}, []int{1, 0}}, {[]string{".", "-"}, []string{".", "-"}, []int{0, 1}}, {[]string{"...", "-", "..", "--"}, []string{"-", "..", "--", "..."}, []int{1, 2, 3, 0}}, {[]string{".....", "-.-", "-", ".-", "..."}, []string{"-", ".-", "...", "-.-", "....."}, []int{2, 3, 4, 1, 0}},
	} {
		sorted, letters, ok := impl.SortTable(table(x.marks...))
		if !ok || !slices.Equal(sorted.Marks, x.want) || !slices.Equal(letters, x.places) {
			t.Errorf("SortTable(%q) = %q, %v, %v", x.marks, sorted.Marks, letters, ok)
		}
	}
}

func TestTreesModifyNothingAndShareNothing(t *testing.T) {
	marks := []string{".-", "-----", "..", "-", "...", "."}
	tab := impl.Table{Marks: marks[:5]}
	for range 2 {
		filled, _ := impl.FilledNodes(tab)
		gaps, _ := impl.GapNodes(tab)
		below, _ := impl.LettersBelow(tab, ".")
		all, _ := impl.LettersBelow(tab, "")
		at, _ := impl.TableAt(5, 5, 0)
		sorted, letters, _ := impl.SortTable(tab)
		if !slices.Equal(filled, []int{3, 4, 5, 8, 63}) || !slices.Equal(gaps, []int{2, 7, 15, 31}) || !slices.Equal(below, []int{2, 0, 4}) || !slices.Equal(all, []int{3, 2, 0, 4, 1}) {
			t.Fatal(filled, gaps, below, all)
		}
		if !slices.Equal(at.Marks, []string{".", "-", "..", ".-", "-."}) || !slices.Equal(sorted.Marks, []string{"-", "..", ".-", "...", "-----"}) || !slices.Equal(letters, []int{3, 2, 0, 4, 1}) {
			t.Fatal(at, sorted, letters)
		}
		// What is written into results must not be seen by the next calls.
		for _, list := range [][]int{filled, gaps, below, all, letters} {
			for i := range list[:cap(list)] {
				list[:cap(list)][i] = 77
			}
		}
		for _, list := range [][]string{at.Marks, sorted.Marks} {
			for i := range list[:cap(list)] {
				list[:cap(list)][i] = "x"
			}
		}
		impl.IsGrown(tab)
		impl.DepthCounts(tab)
		impl.JoinNode(tab, 0, 1)
		impl.WayBetween(tab, 0, 1)
		impl.WayOfMessage(tab, "ab e")
		impl.RankOfTable(tab, 5)
		if !slices.Equal(marks, []string{".-", "-----", "..", "-", "...", "."}) {
			t.Fatal("arguments are modified", marks)
		}
	}
}
