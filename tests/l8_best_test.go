package tests

import (
	"math"
	"slices"
	"strconv"
	"strings"
	"testing"

	"loop.example/g01248/impl"
)

func marksTimeByHand(marks string) int { return timeByHand(table(marks), "a") }

// orderByHand writes the order of times as texts that can be compared by bytes.
func orderByHand(marks string) string {
	signs := strings.NewReplacer(".", "0", "-", "1").Replace(marks)
	return strconv.Itoa(100+marksTimeByHand(marks)) + strconv.Itoa(len(marks)) + signs
}

// inOrderByHand returns a list in the order of times.
func inOrderByHand(texts []string) []string {
	texts = slices.Clone(texts)
	slices.SortFunc(texts, func(a, b string) int { return strings.Compare(orderByHand(a), orderByHand(b)) })
	return texts
}

// allInOrderByHand returns all texts of 1..n marks in the order of times.
func allInOrderByHand(n int) []string { return inOrderByHand(textsOf(".-", n)[1:]) }

func costByHand(marks []string, weights []int) int {
	cost := 0
	for letter := range marks {
		for range weights[letter] {
			cost += marksTimeByHand(marks[letter])
		}
	}
	return cost
}

// bestByHand tries all texts of a stock for each letter, whatever the others have. It returns the
// first best marks, and what they cost.
func bestByHand(stock []string, weights []int) ([]string, int) {
	texts := inOrderByHand(stock)
	times := make([]int, len(texts))
	for i, text := range texts {
		times[i] = marksTimeByHand(text)
	}
	// least has for each letter, and each set of texts that are taken, what it and those behind it
	// cost at least; what cannot be is left at a cost that is greater than any.
	least := make([][]int, len(weights)+1)
	least[len(weights)] = make([]int, 1<<len(texts))
	for letter := len(weights) - 1; letter >= 0; letter-- {
		least[letter] = slices.Repeat([]int{1 << 30}, 1<<len(texts))
		for taken := range least[letter] {
			for i := range texts {
				if taken>>i&1 == 0 {
					cost := weights[letter]*times[i] + least[letter+1][taken|1<<i]
					least[letter][taken] = min(least[letter][taken], cost)
				}
			}
		}
	}
	marks := []string{}
	taken := 0
	for letter, weight := range weights {
		for i := range texts {
			if taken>>i&1 == 0 && weight*times[i]+least[letter+1][taken|1<<i] == least[letter][taken] {
				marks = append(marks, texts[i])
				taken |= 1 << i
				break
			}
		}
	}
	return marks, least[0][0]
}

// weightLists returns lists of n weights: all of some numbers if n is small, and of others some in
// which few, many or all are the same.
func weightLists(n int) [][]int {
	lists := [][]int{slices.Repeat([]int{0}, n), slices.Repeat([]int{1}, n), slices.Repeat([]int{impl.MaxWeight}, n)}
	up := []int{}
	for i := range n {
		up = append(up, 11*i)
	}
	down := slices.Clone(up)
	slices.Reverse(down)
	lists = append(lists, up, down)
	state := 1
	for _, kinds := range [][]int{{0, 1}, {0, 99}, {98, 99}, {0, 1, 2}, {0, 0, 0, 5}, {7, 7, 3, 0}, {99, 0, 50, 1, 20, 21}, {2, 3, 5, 7, 11, 13, 17, 19}} {
		for range 3 {
			list := []int{}
			for range n {
				state = (state*1103515245 + 12345) % (1 << 31)
				list = append(list, kinds[state>>16%len(kinds)])
			}
			lists = append(lists, list)
		}
	}
	if n <= 3 {
		for _, text := range textsOf("0129", n) {
			list := []int{}
			for i := range len(text) {
				list = append(list, map[byte]int{'0': 0, '1': 1, '2': 2, '9': 99}[text[i]])
			}
			if len(list) == n {
				lists = append(lists, list)
			}
		}
	}
	return lists
}

// notWeights has lists that are no weights for any number of letters.
func notWeights() [][]int {
	return [][]int{
		nil, {}, make([]int, 11), make([]int, 12), make([]int, 100000), {1, 2, 3, 4, 5, 6, 7, 8, 9, 10, 11},
		{-1}, {100}, {math.MinInt}, {math.MaxInt}, {1 << 32}, {1<<32 + 1}, {-1 << 32}, {0, -1}, {-1, 0}, {100, 0}, {0, 100}, {5, 1, -1}, {5, 100, 1}, {-1, -1, -1}, {1, 2, 3, 1 << 40}, {math.MaxInt, math.MaxInt}, {math.MinInt, math.MaxInt, 3},
		{0, 0, 0, 0, 0, 0, 0, 0, 0, -1}, {99, 99, 99, 99, 99, 99, 99, 99, 99, 100}, {99, 99, 99, 99, 100}, {1, 2, -3, 4, 5},
	}
}

// tablesForBest has Tables of all numbers of letters, in several orders, with texts of the same
// time and with none.
func tablesForBest() []impl.Table {
	tables := append(tablesForMessages(),
		table(".-", "-.", "..."), table("--", "....", "..-", ".-."), table("....", "--", "...", ".-", "-"), table("-----", ".", "....-", "-", "--", ".."),
		table("...", "-.", ".-", "..", "-", "."), table("-.-", "--.", "--", ".-", "....", "...", "."), table(".....", "..", "-----", "-", "...-", ".--", "---", "....-"),
		table("..", "-", "...", "-.", ".-", "....", "-..", ".-.", "..-"), table("-----", "----.", "---", "-.-.", "--", "-..", "-.", ".-", "-", "."), table("....", "-..", ".-.", "..-", "--", "...", "-.", ".-", "..", "-"),
	)
	for _, tab := range tables {
		if len(tab.Marks) > 2 {
			turned := append(slices.Clone(tab.Marks[1:]), tab.Marks[0])
			back := slices.Clone(tab.Marks)
			slices.Reverse(back)
			tables = append(tables, table(turned...), table(back...))
		}
	}
	return tables
}

func TestCostIsTheTimeOfAllLetters(t *testing.T) {
	for _, tab := range append(tablesForBest(), longerTables()...) {
		for _, weights := range weightLists(len(tab.Marks)) {
			if got, ok := impl.CostOf(tab, weights); !ok || got != costByHand(tab.Marks, weights) {
				t.Fatalf("CostOf(%q, %v) = %d, %v, not %d", tab.Marks, weights, got, ok, costByHand(tab.Marks, weights))
			}
		}
	}
	for _, x := range []struct {
		tab     impl.Table
		weights []int
		want    int
	}{
		{table("."), []int{0}, 0}, {table("."), []int{1}, 1}, {table("-----"), []int{99}, 1881}, {table("....."), []int{2}, 18}, {table(".", "-", ".-"), []int{1, 5, 2}, 26}, {table(".", "-", ".-"), []int{0, 0, 0}, 0},
		{table("-----", "----.", "---.-", "--.--", "-.---", ".----", "---..", "--.-.", "-.--.", ".---."), slices.Repeat([]int{99}, 10), 99 * (19 + 5*17 + 4*15)},
	} {
		if got, ok := impl.CostOf(x.tab, x.weights); !ok || got != x.want {
			t.Errorf("CostOf(%q, %v) = %d, %v, not %d", x.tab.Marks, x.weights, got, ok, x.want)
		}
	}
}

func TestMarksBeforeIsTheOrderOfTimes(t *testing.T) {
	texts := allInOrderByHand(impl.MaxMarks)
	for i, a := range texts {
		for j, b := range texts {
			if before, ok := impl.MarksBefore(a, b); !ok || before != (i < j) {
				t.Errorf("MarksBefore(%q, %q) = %v, %v", a, b, before, ok)
			}
		}
	}
	for _, x := range []struct {
		a, b string
		want bool
	}{
		{".", "-", true}, {"-", ".", false}, {".", ".", false}, {"-", "..", true}, {"..", "-", false}, {"..", ".-", true}, {".-", "-.", true}, {"-.", ".-", false}, {"-.", "...", true}, {"...", "--", true}, {"--", "..-", true}, {"..-", ".-.", true}, {".-.", "-..", true}, {"-..", "....", true}, {".....", ".--", false}, {".--", ".....", true}, {"---", ".....", false}, {"-----", ".....", false}, {"-----", "-----", false},
	} {
		if before, ok := impl.MarksBefore(x.a, x.b); !ok || before != x.want {
			t.Errorf("MarksBefore(%q, %q) = %v, %v", x.a, x.b, before, ok)
		}
	}
	for _, other := range append(otherMarks(), "") {
		for _, x := range [][2]string{{".", other}, {other, "."}, {other, other}, {other, "-----"}} {
			if before, ok := impl.MarksBefore(x[0], x[1]); ok || before {
				t.Errorf("MarksBefore(%.20q, %.20q) = %v, %v", x[0], x[1], before, ok)
			}
		}
	}
}

func TestCheapestMarks(t *testing.T) {
	texts := allInOrderByHand(impl.MaxMarks)
	written := []string{".", "-", "..", ".-", "-.", "...", "--", "..-", ".-.", "-.."}
	for n := 1; n <= impl.MaxTable; n++ {
		if got, ok := impl.CheapestMarks(n); !ok || !slices.Equal(got, texts[:n]) || !slices.Equal(got, written[:n]) {
			t.Errorf("CheapestMarks(%d) = %q, %v", n, got, ok)
		}
	}
	for _, n := range []int{0, -1, 11, 12, 62, 63, math.MinInt, math.MaxInt, 1 << 32, 1<<32 + 1} {
		if got, ok := impl.CheapestMarks(n); ok || len(got) != 0 {
			t.Errorf("CheapestMarks(%d) = %q, %v", n, got, ok)
		}
	}
}

func checkBestFrom(t *testing.T, stock []string, weights []int) {
	t.Helper()
	want, cost := bestByHand(stock, weights)
	got, ok := impl.BestFrom(stock, weights)
	if !ok || !slices.Equal(got.Marks, want) || costByHand(got.Marks, weights) != cost {
		t.Fatalf("BestFrom(%q, %v) = %q, %v, not %q for %d", stock, weights, got.Marks, ok, want, cost)
	}
}

func TestBestFromIsTheFirstBestTable(t *testing.T) {
	for _, tab := range tablesForBest() {
		// With fewer letters, there are texts to spare.
		for n := 1; n <= len(tab.Marks); n++ {
			lists := weightLists(n)
			if len(tab.Marks) == impl.MaxTable {
				lists = lists[:14]
			}
			for _, weights := range lists {
				checkBestFrom(t, tab.Marks, weights)
			}
		}
	}
	for i, tab := range longerTables() {
		n := len(tab.Marks) - i%2
		if i%20 == 0 && n > 0 {
			checkBestFrom(t, tab.Marks, weightLists(n)[i/20%29])
		}
	}
}

func TestBestFromThatIsWrittenOut(t *testing.T) {
	for _, x := range []struct {
		stock   []string
		weights []int
		want    []string
	}{
		{[]string{"-----"}, []int{0}, []string{"-----"}}, {[]string{"-----"}, []int{99}, []string{"-----"}}, {[]string{"-", "."}, []int{0}, []string{"."}}, {[]string{"...", "-.", ".-"}, []int{7}, []string{".-"}},
		{[]string{".", "-", ".-"}, []int{1, 5, 2}, []string{".-", ".", "-"}}, {[]string{"-", "."}, []int{0, 0}, []string{".", "-"}}, {[]string{"-", "."}, []int{0, 1}, []string{"-", "."}}, {[]string{"--", "-", "."}, []int{0, 1}, []string{"-", "."}},
		// Texts of the same time go to letters in the order of the letters, whatever their weights are.
		{[]string{"..", "-", "."}, []int{0, 5, 3}, []string{"-", ".", ".."}}, {[]string{"..", "-"}, []int{1, 9}, []string{"-", ".."}}, {[]string{"...", "-.", ".-", "."}, []int{1, 2, 0, 3}, []string{".-", "-.", "...", "."}}, {[]string{"....", "...", "-.", "-.."}, []int{1, 4, 2, 3}, []string{"-..", "-.", "....", "..."}},
		// Letters of the same weight have times in their own order.
		{[]string{"--", ".-", "-", "."}, []int{5, 5, 5, 5}, []string{".", "-", ".-", "--"}}, {[]string{"--", "-.", "..", "."}, []int{3, 9, 3, 9}, []string{"-.", ".", "--", ".."}}, {[]string{"...", "-.", ".-", "..", "-", "."}, []int{0, 0, 9, 0}, []string{"-", "..", ".", ".-"}},
		// A weight of 0 takes the first of all that is left to it, and no text that another letter needs.
		{[]string{".", "-", "..", ".-"}, []int{0, 1, 0, 1}, []string{"-", ".", ".-", ".."}}, {[]string{"-----", "....-", "-", "."}, []int{0, 0, 99}, []string{"-", "....-", "."}},
		{[]string{".", "-", "..", ".-", "-.", "...", "--", "..-", ".-.", "-.."}, []int{0, 1, 2, 3, 4, 5, 6, 7, 8, 9}, []string{"--", "..-", ".-.", "-..", ".-", "-.", "...", "-", "..", "."}},
		{[]string{".", "-", "..", ".-", "-.", "...", "--", "..-", ".-.", "-.."}, slices.Repeat([]int{99}, 10), []string{".", "-", "..", ".-", "-.", "...", "--", "..-", ".-.", "-.."}},
	} {
		for range x.stock {
			// The order of the stock tells nothing.
			x.stock = append(slices.Clone(x.stock[1:]), x.stock[0])
			if got, ok := impl.BestFrom(x.stock, x.weights); !ok || !slices.Equal(got.Marks, x.want) {
				t.Errorf("BestFrom(%q, %v) = %q, %v, not %q", x.stock, x.weights, got.Marks, ok, x.want)
			}
		}
	}
}

func TestBestFromFails(t *testing.T) {
	check := func(stock []string, weights []int) {
		t.Helper()
		if got, ok := impl.BestFrom(stock, weights); ok || len(got.Marks) != 0 {
			t.Errorf("BestFrom(%.20q, %v) = %q, %v", stock, weights, got.Marks, ok)
		}
	}
	for _, none := range tablesThatAreNone() {
		for n := range impl.MaxTable + 2 {
			check(none.Marks, make([]int, n))
		}
	}
	check([]string{".", "-", "."}, []int{1})
	check([]string{".", "-", "."}, []int{1, 2})
	check([]string{"..", ".."}, []int{0, 0})
	for _, tab := range tablesForBest() {
		for _, weights := range notWeights() {
			check(tab.Marks, weights)
		}
		for n := len(tab.Marks) + 1; n <= impl.MaxTable+1; n++ {
			check(tab.Marks, make([]int, n))
			check(tab.Marks, slices.Repeat([]int{99}, n))
		}
		check(tab.Marks, []int{})
	}
}

// bestOfAllByHand goes through all Tables of at most 3 letters, the first one first.
func bestOfAllByHand(weights []int) ([]string, int) {
	texts := allInOrderByHand(impl.MaxMarks)
	costs := map[string]int{}
	for _, text := range texts {
		costs[text] = marksTimeByHand(text)
	}
	best, least := []string{}, 1<<30
	var try func(marks []string, cost int)
	try = func(marks []string, cost int) {
		if len(marks) == len(weights) {
			if cost < least {
				best, least = slices.Clone(marks), cost
			}
			return
		}
		for _, text := range texts {
			if !slices.Contains(marks, text) {
				try(append(marks, text), cost+weights[len(marks)]*costs[text])
			}
		}
	}
	try(nil, 0)
	return best, least
}

// leastOfAllByHand gives, for any number of letters, each of all texts to one letter or to none.
func leastOfAllByHand(weights []int) int {
	least := slices.Repeat([]int{1 << 30}, 1<<len(weights))
	least[0] = 0
	for _, text := range allInOrderByHand(impl.MaxMarks) {
		time := marksTimeByHand(text)
		for have := len(least) - 1; have >= 0; have-- {
			for letter, weight := range weights {
				if have>>letter&1 == 1 {
					least[have] = min(least[have], least[have&^(1<<letter)]+weight*time)
				}
			}
		}
	}
	return least[len(least)-1]
}

func checkBestTable(t *testing.T, weights []int, want []string, least int) {
	t.Helper()
	best, one := impl.BestTable(weights)
	cost, two := impl.BestCost(weights)
	if !one || !two || !slices.Equal(best.Marks, want) || cost != least || costByHand(best.Marks, weights) != least {
		t.Fatalf("%v: %q, %v, for %d, %v, not %q for %d", weights, best.Marks, one, cost, two, want, least)
	}
}

func TestBestTableIsTheFirstBestOfAll(t *testing.T) {
	for n := 1; n <= 3; n++ {
		for i, weights := range weightLists(n) {
			if n < 3 || i%6 == 0 {
				want, least := bestOfAllByHand(weights)
				checkBestTable(t, weights, want, least)
			}
		}
	}
	texts := allInOrderByHand(impl.MaxMarks)
	for n := 1; n <= impl.MaxTable; n++ {
		for i, weights := range weightLists(n) {
			if i < 29 && i%3 == 0 {
				want, least := bestByHand(texts[:n+2], weights)
				checkBestTable(t, weights, want, least)
				if all := leastOfAllByHand(weights); all != least {
					t.Fatalf("%v: %d, not %d", weights, least, all)
				}
			}
		}
	}
}

func TestBestTablesThatAreWrittenOut(t *testing.T) {
	for _, x := range []struct {
		weights []int
		want    []string
		cost    int
	}{
		{[]int{0}, []string{"."}, 0}, {[]int{99}, []string{"."}, 99}, {[]int{0, 0, 0}, []string{".", "-", ".."}, 0}, {[]int{1, 5, 2}, []string{"-", ".", ".."}, 14}, {[]int{0, 1}, []string{"-", "."}, 1}, {[]int{2, 1, 5}, []string{"-", "..", "."}, 14},
		{[]int{4, 3, 2, 1}, []string{".", "-", "..", ".-"}, 24}, {[]int{1, 2, 3, 4}, []string{".-", "-", "..", "."}, 24}, {[]int{0, 0, 0, 1, 0}, []string{"-", "..", ".-", ".", "-."}, 1}, {[]int{1, 2, 3, 4, 5, 6}, []string{".-", "-.", "...", "-", "..", "."}, 63},
		{make([]int, 10), []string{".", "-", "..", ".-", "-.", "...", "--", "..-", ".-.", "-.."}, 0}, {slices.Repeat([]int{99}, 10), []string{".", "-", "..", ".-", "-.", "...", "--", "..-", ".-.", "-.."}, 99 * 50},
		{[]int{0, 0, 0, 0, 0, 0, 0, 0, 0, 1}, []string{"-", "..", ".-", "-.", "...", "--", "..-", ".-.", "-..", "."}, 1},
	} {
		checkBestTable(t, x.weights, x.want, x.cost)
	}
}

func TestBestCostIsAtMostThatOfEachTable(t *testing.T) {
	for _, tab := range append(tablesForMistakes(), manyTables()...) {
		lists := weightLists(len(tab.Marks))
		for i := len(tab.Marks[0]); i < len(lists); i += 7 {
			best, ok := impl.BestCost(lists[i])
			if !ok || best > costByHand(tab.Marks, lists[i]) {
				t.Fatalf("BestCost(%v) = %d, %v, but %q costs less", lists[i], best, ok, tab.Marks)
			}
		}
	}
}

func TestBestTableFails(t *testing.T) {
	for _, weights := range notWeights() {
		best, one := impl.BestTable(weights)
		cost, two := impl.BestCost(weights)
		if one || two || len(best.Marks) != 0 || cost != 0 {
			t.Errorf("%.20v: %q, %v, %d, %v", weights, best.Marks, one, cost, two)
		}
	}
}

// swapByHand returns the first pair of letters whose swap lowers the cost most, the marks behind
// it, and by how much it is lowered.
func swapByHand(marks []string, weights []int) ([2]int, []string, int) {
	pair, best, most := [2]int{}, marks, 0
	for i := range marks {
		for j := range i {
			swapped := slices.Clone(marks)
			swapped[i], swapped[j] = swapped[j], swapped[i]
			lowered := costByHand(marks, weights) - costByHand(swapped, weights)
			this := [2]int{j, i}
			if lowered > most || lowered == most && lowered > 0 && slices.Compare(this[:], pair[:]) < 0 {
				pair, best, most = this, swapped, lowered
			}
		}
	}
	return pair, best, most
}

// checkSwaps goes swap by swap, until none lowers the cost.
func checkSwaps(t *testing.T, tab impl.Table, weights []int) {
	t.Helper()
	_, least := bestByHand(tab.Marks, weights)
	marks := slices.Clone(tab.Marks)
	swaps := 0
	for {
		pair, next, lowered := swapByHand(marks, weights)
		got, by, ok := impl.BestSwap(table(marks...), weights)
		if ok != (lowered > 0) || got != pair || by != lowered {
			t.Fatalf("BestSwap(%q, %v) = %v, %d, %v, not %v, %d", marks, weights, got, by, ok, pair, lowered)
		}
		is, one := impl.IsBestOrder(table(marks...), weights)
		if want := costByHand(marks, weights) == least; !one || is != want || is != (lowered == 0) {
			t.Fatalf("IsBestOrder(%q, %v) = %v, %v", marks, weights, is, one)
		}
		if lowered == 0 {
			break
		}
		marks = next
		swaps++
	}
	if got, ok := impl.SwapsToBest(tab, weights); !ok || got != swaps {
		t.Fatalf("SwapsToBest(%q, %v) = %d, %v, not %d", tab.Marks, weights, got, ok, swaps)
	}
}

func TestSwapsLeadToABestOrder(t *testing.T) {
	for _, tab := range tablesForBest() {
		lists := weightLists(len(tab.Marks))
		if len(tab.Marks) > 8 {
			lists = lists[:20]
		}
		for _, weights := range lists {
			checkSwaps(t, tab, weights)
		}
	}
	for i, tab := range longerTables() {
		if i%9 == 0 {
			checkSwaps(t, tab, weightLists(len(tab.Marks))[i/9%29])
		}
	}
}

func TestGreaterWeightsHaveNoGreaterTimesInABestOrder(t *testing.T) {
	for _, tab := range append(tablesForBest(), longerTables()...) {
		for _, weights := range weightLists(len(tab.Marks)) {
			want := true
			for i, a := range tab.Marks {
				for j, b := range tab.Marks {
					want = want && (weights[i] <= weights[j] || marksTimeByHand(a) <= marksTimeByHand(b))
				}
			}
			if is, ok := impl.IsBestOrder(tab, weights); !ok || is != want {
				t.Fatalf("IsBestOrder(%q, %v) = %v, %v", tab.Marks, weights, is, ok)
			}
		}
	}
}

func TestSwapsThatAreWrittenOut(t *testing.T) {
	for _, x := range []struct {
		tab     impl.Table
		weights []int
		pair    [2]int
		lowered int
		swaps   int
	}{
		{table("-----"), []int{99}, [2]int{}, 0, 0}, {table("."), []int{0}, [2]int{}, 0, 0}, {table("-", "."), []int{0, 0}, [2]int{}, 0, 0}, {table("-", "."), []int{7, 7}, [2]int{}, 0, 0}, {table("-", ".."), []int{0, 99}, [2]int{}, 0, 0}, {table("..", "-"), []int{0, 99}, [2]int{}, 0, 0},
		{table(".", "-", ".-"), []int{1, 5, 2}, [2]int{0, 1}, 8, 2}, {table(".", "-", ".-"), []int{5, 2, 1}, [2]int{}, 0, 0}, {table("-", "."), []int{1, 0}, [2]int{0, 1}, 2, 1}, {table("-----", "."), []int{99, 0}, [2]int{0, 1}, 1782, 1}, {table(".", "-----"), []int{99, 0}, [2]int{}, 0, 0},
		// Of swaps that lower as much, the first pair is taken.
		{table("-", "..", "."), []int{5, 5, 3}, [2]int{0, 2}, 4, 1}, {table("--", ".", "....", "-"), []int{9, 1, 9, 1}, [2]int{0, 1}, 48, 2}, {table(".", "--", "-", ".-"), []int{0, 3, 0, 3}, [2]int{0, 1}, 18, 2}, {table("-.", "-", ".", ".-"), []int{2, 1, 1, 2}, [2]int{0, 2}, 4, 2},
		// The less one of two letters is told first, also if the greatest pair is the best one.
		{table(".", "-", ".-", "--"), []int{9, 8, 1, 7}, [2]int{2, 3}, 12, 1}, {table("-", ".", ".-", "--"), []int{9, 8, 1, 7}, [2]int{2, 3}, 12, 2},
		// The two letters in the middle have the same time.
		{table("-----", "----.", "---", "-.-.", "--", "-..", "-.", ".-", "-", "."), []int{99, 88, 77, 66, 55, 44, 33, 22, 11, 0}, [2]int{0, 9}, 1782, 4},
	} {
		pair, lowered, ok := impl.BestSwap(x.tab, x.weights)
		swaps, also := impl.SwapsToBest(x.tab, x.weights)
		is, fine := impl.IsBestOrder(x.tab, x.weights)
		if ok != (x.swaps > 0) || !also || !fine || pair != x.pair || lowered != x.lowered || swaps != x.swaps || is != (x.swaps == 0) {
			t.Errorf("%q, %v: %v, %d, %v, %d, %v, not %v, %d, %d", x.tab.Marks, x.weights, pair, lowered, ok, swaps, is, x.pair, x.lowered, x.swaps)
		}
	}
}

func TestBestTablesAreInBestOrder(t *testing.T) {
	for n := 1; n <= impl.MaxTable; n++ {
		for _, weights := range weightLists(n) {
			best, _ := impl.BestTable(weights)
			is, one := impl.IsBestOrder(best, weights)
			swaps, two := impl.SwapsToBest(best, weights)
			_, _, lowers := impl.BestSwap(best, weights)
			cost, three := impl.CostOf(best, weights)
			least, four := impl.BestCost(weights)
			if !one || !two || !three || !four || !is || swaps != 0 || lowers || cost != least {
				t.Errorf("%v: %q, %v, %d, %v, %d, %d", weights, best.Marks, is, swaps, lowers, cost, least)
			}
		}
	}
}

func checkWeightFailures(t *testing.T, tab impl.Table, weights []int) {
	t.Helper()
	cost, one := impl.CostOf(tab, weights)
	is, two := impl.IsBestOrder(tab, weights)
	pair, lowered, three := impl.BestSwap(tab, weights)
	swaps, four := impl.SwapsToBest(tab, weights)
	if one || two || three || four || cost != 0 || is || pair != [2]int{} || lowered != 0 || swaps != 0 {
		t.Errorf("%.20q, %.20v: %d, %v, %v, %d, %d", tab.Marks, weights, cost, is, pair, lowered, swaps)
	}
}

func TestCostsAndSwapsFail(t *testing.T) {
	for _, none := range tablesThatAreNone() {
		for n := range impl.MaxTable + 2 {
			checkWeightFailures(t, none, make([]int, n))
			checkWeightFailures(t, none, slices.Repeat([]int{99}, n))
		}
		checkWeightFailures(t, none, make([]int, len(none.Marks)))
	}
	for _, tab := range tablesForBest() {
		for _, weights := range notWeights() {
			checkWeightFailures(t, tab, weights)
		}
		for n := range impl.MaxTable + 3 {
			if n != len(tab.Marks) {
				checkWeightFailures(t, tab, make([]int, n))
				checkWeightFailures(t, tab, slices.Repeat([]int{5}, n))
			}
		}
		for place := range tab.Marks {
			for _, other := range []int{-1, 100, math.MinInt, math.MaxInt, 1 << 32} {
				weights := make([]int, len(tab.Marks))
				weights[place] = other
				checkWeightFailures(t, tab, weights)
			}
		}
	}
}

func TestWeightsAreHowOftenAMessageHasLetters(t *testing.T) {
	for _, tab := range tablesForMessages() {
		for _, m := range append(messagesByHand(tab, 3), longMessages(tab)...) {
			want, cost := []int{}, 0
			for letter, marks := range tab.Marks {
				count := strings.Count(m, "abcdefghij"[letter:letter+1])
				want = append(want, count)
				cost += count * marksTimeByHand(marks)
			}
			got, ok := impl.WeightsOf(tab, m)
			of, also := impl.CostOf(tab, got)
			if !ok || !also || !slices.Equal(got, want) || of != cost {
				t.Fatalf("WeightsOf(%q, %q) = %v, %v, not %v", tab.Marks, m, got, ok, want)
			}
		}
	}
	tab := table(".", "-", ".-")
	for _, x := range []struct {
		m    string
		want []int
	}{
		{"", []int{0, 0, 0}}, {"a", []int{1, 0, 0}}, {"c", []int{0, 0, 1}}, {"ab c", []int{1, 1, 1}}, {"cc c b", []int{0, 1, 3}}, {"bbbbbbbbbbbb", []int{0, 12, 0}}, {"a a a a a c", []int{5, 0, 1}},
	} {
		if got, ok := impl.WeightsOf(tab, x.m); !ok || !slices.Equal(got, x.want) {
			t.Errorf("WeightsOf(%q) = %v, %v, not %v", x.m, got, ok, x.want)
		}
	}
}

func TestWeightsOfFails(t *testing.T) {
	for _, none := range tablesThatAreNone() {
		for _, m := range []string{"", "a", "a a", " "} {
			if got, ok := impl.WeightsOf(none, m); ok || len(got) != 0 {
				t.Errorf("WeightsOf(%.20q, %q) = %v, %v", none.Marks, m, got, ok)
			}
		}
	}
	for _, tab := range tablesForMessages() {
		for _, m := range notMessages(tab) {
			if got, ok := impl.WeightsOf(tab, m); ok || len(got) != 0 {
				t.Errorf("WeightsOf(%q, %.20q) = %v, %v", tab.Marks, m, got, ok)
			}
		}
	}
}

// openByHand goes through all lists of n texts of which none is the beginning of another one, the
// first one first.
func openByHand(texts []string, n int) []string {
	best, least := []string{}, 1<<30
	var try func(list []string, from, sum int)
	try = func(list []string, from, sum int) {
		if len(list) == n {
			if sum < least {
				best, least = slices.Clone(list), sum
			}
			return
		}
		for i := from; i < len(texts); i++ {
			text := texts[i]
			if !slices.ContainsFunc(list, func(other string) bool {
				return strings.HasPrefix(text, other) || strings.HasPrefix(other, text)
			}) {
				try(append(list, text), i+1, sum+marksTimeByHand(text))
			}
		}
	}
	try(nil, 0, 0)
	return best
}

func TestOpenMarks(t *testing.T) {
	written := [][]string{
		{"."}, {".", "-"}, {"-", "..", ".-"}, {"-", ".-", "...", "..-"}, {".-", "-.", "...", "--", "..-"}, {".-", "-.", "--", "..-", "....", "...-"},
	}
	texts := allInOrderByHand(4)
	for i, want := range written {
		n := i + 1
		got, ok := impl.OpenMarks(n)
		if !ok || !slices.Equal(got, want) || !slices.Equal(got, openByHand(texts, n)) {
			t.Errorf("OpenMarks(%d) = %q, %v, not %q", n, got, ok, want)
		}
		if free, ok := impl.IsFreeTable(table(got...)); !ok || !free {
			t.Errorf("OpenMarks(%d) = %q, and one is the beginning of another", n, got)
		}
	}
	for _, n := range []int{0, -1, -6, 7, 8, 10, math.MinInt, math.MaxInt, 1 << 32, 1<<32 + 1} {
		if got, ok := impl.OpenMarks(n); ok || len(got) != 0 {
			t.Errorf("OpenMarks(%d) = %q, %v", n, got, ok)
		}
	}
}

func TestCountByTimeIsTheNumberOfTexts(t *testing.T) {
	// More than 15 marks take more than 30.
	counts := map[int]int{}
	for _, text := range textsOf(".-", 15)[1:] {
		counts[strings.Count(text, ".")+3*strings.Count(text, "-")+len(text)-1]++
	}
	for time := 1; time <= 30; time++ {
		got, ok := impl.CountByTime(time)
		if !ok || got != counts[time] {
			t.Errorf("CountByTime(%d) = %d, %v, not %d", time, got, ok, counts[time])
		}
		if time < 5 {
			continue
		}
		one, _ := impl.CountByTime(time - 2)
		two, _ := impl.CountByTime(time - 4)
		if got != one+two {
			t.Errorf("CountByTime(%d) = %d, not %d and %d", time, got, one, two)
		}
	}
	for time, want := range map[int]int{1: 1, 2: 0, 3: 2, 4: 0, 5: 3, 6: 0, 7: 5, 8: 0, 9: 8, 19: 89, 28: 0, 29: 987, 30: 0} {
		if got, ok := impl.CountByTime(time); !ok || got != want {
			t.Errorf("CountByTime(%d) = %d, %v, not %d", time, got, ok, want)
		}
	}
	for _, time := range []int{0, -1, -2, 31, 32, 33, math.MinInt, math.MaxInt, 1 << 32, 1<<32 + 1} {
		if got, ok := impl.CountByTime(time); ok || got != 0 {
			t.Errorf("CountByTime(%d) = %d, %v", time, got, ok)
		}
	}
}

func TestBestFunctionsModifyNothingAndShareNothing(t *testing.T) {
	marks := []string{".-", "--", "..", "-", ".", "..."}
	weights := []int{1, 0, 7, 9, 3, 99}
	tab := impl.Table{Marks: marks[:5]}
	for range 2 {
		from, _ := impl.BestFrom(marks[:5], weights[:4])
		same, _ := impl.BestFrom(marks[:5], weights[:5])
		best, _ := impl.BestTable(weights[:5])
		cheap, _ := impl.CheapestMarks(5)
		own, _ := impl.WeightsOf(tab, "ab e")
		open, _ := impl.OpenMarks(3)
		swaps, _ := impl.SwapsToBest(tab, weights[:5])
		if !slices.Equal(from.Marks, []string{"-", ".-", "..", "."}) || !slices.Equal(same.Marks, []string{".-", "--", "-", ".", ".."}) || !slices.Equal(best.Marks, []string{".-", "-.", "-", ".", ".."}) || swaps != 1 {
			t.Fatal(from, same, best, swaps)
		}
		if !slices.Equal(cheap, []string{".", "-", "..", ".-", "-."}) || !slices.Equal(own, []int{1, 1, 0, 0, 1}) || !slices.Equal(open, []string{"-", "..", ".-"}) {
			t.Fatal(cheap, own, open)
		}
		// What is written into results must not be seen by the next calls.
		for _, list := range [][]string{from.Marks, same.Marks, best.Marks, cheap, open} {
			for i := range list[:cap(list)] {
				list[:cap(list)][i] = "x"
			}
		}
		for i := range own {
			own[i] = 77
		}
		impl.CostOf(tab, weights[:5])
		impl.BestCost(weights[:5])
		impl.IsBestOrder(tab, weights[:5])
		impl.BestSwap(tab, weights[:5])
		if !slices.Equal(marks, []string{".-", "--", "..", "-", ".", "..."}) || !slices.Equal(weights, []int{1, 0, 7, 9, 3, 99}) {
			t.Fatal("arguments are modified", marks, weights)
		}
	}
}
