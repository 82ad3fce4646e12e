package tests

import (
	"math"
	"math/big"
	"slices"
	"strings"
	"testing"

	"loop.example/g01248/impl"
)

// tablesForTelling has, beside other Tables, some whose letters begin with others, one by one or
// all with one, some that each question parts badly, and some that one question parts.
func tablesForTelling() []impl.Table {
	return append(tablesForTrees(),
		table(".....", "-....", ".-...", "..-..", "...-.", "....-"), table("-----", ".----", "-.---", "--.--", "---.-", "----."), table("....-", ".....", "...-.", "-...."), table("..", ".-.", ".--", ".-", "-"),
		table("...", "..-", ".-.", ".--", "-..", "-.-", "--.", "---"), table("..", ".-", "-"), table("-.-.-", "-.-..", "-.-."), table("-", ".", "..-.-", "..-.."), table(".", ".-", ".-.-.", "--.-", "-.--", "-"),
	)
}

// wholeList has all letters of a Table.
func wholeList(tab impl.Table) []int {
	list := []int{}
	for letter := range tab.Marks {
		list = append(list, letter)
	}
	return list
}

// letterLists has all lists of letters of a Table.
func letterLists(tab impl.Table) [][]int {
	lists := [][]int{}
	for bits := 1; bits < 1<<len(tab.Marks); bits++ {
		list := []int{}
		for letter := range tab.Marks {
			if bits>>letter&1 == 1 {
				list = append(list, letter)
			}
		}
		lists = append(lists, list)
	}
	return lists
}

// notLetters has lists that are not ones of letters of a Table.
func notLetters(tab impl.Table) [][]int {
	n := len(tab.Marks)
	lists := [][]int{nil, {}, {0, 0}, {n - 1, n - 1}, append(wholeList(tab), n-1), append([]int{0}, wholeList(tab)...), make([]int, 100000)}
	for _, other := range otherPlaces(tab) {
		lists = append(lists, []int{other}, []int{0, other}, []int{other, 0}, []int{other, n - 1}, append(wholeList(tab), other), append([]int{other}, wholeList(tab)...))
	}
	if n > 1 {
		lists = append(lists, []int{1, 0}, []int{n - 1, 0}, []int{0, 1, 1}, []int{0, 0, 1}, []int{0, 1, 0})
		back := wholeList(tab)
		slices.Reverse(back)
		lists = append(lists, back, append(wholeList(tab)[:n-2], n-1, n-2))
	}
	return lists
}

func otherAsks() []int {
	return []int{-1, -2, -5, 5, 6, 10, math.MinInt, math.MaxInt, 1 << 32, 1<<32 + 1, -1 << 32}
}

// answerByHand looks at marks that are filled up with as many spaces as places are missing.
func answerByHand(marks string, place int) int {
	return strings.IndexByte(".- ", (marks + "     ")[place])
}

func partsByHand(tab impl.Table, letters []int, place int) [3][]int {
	parts := [3][]int{}
	for answer := range parts {
		for _, letter := range letters {
			if answerByHand(tab.Marks[letter], place) == answer {
				parts[answer] = append(parts[answer], letter)
			}
		}
	}
	return parts
}

// lettersLeft returns the parts in which there are letters.
func lettersLeft(parts [3][]int) [][]int {
	left := [][]int{}
	for _, part := range parts {
		if len(part) > 0 {
			left = append(left, part)
		}
	}
	return left
}

// isToldBy reports whether each letter can be told by at most some number of questions.
func isToldBy(tab impl.Table, letters []int, questions int) bool {
	if len(letters) == 1 {
		return true
	}
	_, ok := askToTell(tab, letters, questions)
	return ok
}

// askToTell returns the first of all places behind which one question less tells each letter.
func askToTell(tab impl.Table, letters []int, questions int) (int, bool) {
	if questions == 0 {
		return 0, false
	}
	for place := range impl.MaxMarks {
		isToldLater := true
		for _, part := range lettersLeft(partsByHand(tab, letters, place)) {
			isToldLater = isToldLater && isToldBy(tab, part, questions-1)
		}
		if isToldLater {
			return place, true
		}
	}
	return 0, false
}

func depthByHand(tab impl.Table, letters []int) int {
	depth := 0
	for !isToldBy(tab, letters, depth) {
		depth++
	}
	return depth
}

func bestAskByHand(tab impl.Table, letters []int) int {
	place, _ := askToTell(tab, letters, depthByHand(tab, letters))
	return place
}

func askedByHand(tab impl.Table, letter int) []int {
	asked := []int{}
	for left := wholeList(tab); len(left) > 1; {
		place := bestAskByHand(tab, left)
		asked = append(asked, place)
		left = partsByHand(tab, left, place)[answerByHand(tab.Marks[letter], place)]
	}
	return asked
}

// winnerByHand plays all games to their ends, and returns which of the players 0 and 1 wins.
func winnerByHand(tab impl.Table, letters []int, asks int) int {
	other := 1 - asks
	for place := range impl.MaxMarks {
		left := lettersLeft(partsByHand(tab, letters, place))
		if len(left) == 1 {
			continue
		}
		wins := 0
		for _, part := range left {
			if len(part) == 1 || winnerByHand(tab, part, other) == asks {
				wins++
			}
		}
		if wins == len(left) {
			return asks
		}
	}
	return other
}

// heardByHand hears the marks of all letters with a sign for the end behind them.
func heardByHand(tab impl.Table, letter int) int {
	signs := tab.Marks[letter] + "/"
	for heard := range len(signs) + 1 {
		count := 0
		for _, marks := range tab.Marks {
			if strings.HasPrefix(marks+"/", signs[:heard]) {
				count++
			}
		}
		if count == 1 {
			return heard
		}
	}
	return -1
}

// meanByHand counts each letter as often as its weight tells.
func meanByHand(steps, weights []int) (*big.Rat, bool) {
	sum, count := 0, 0
	for letter, weight := range weights {
		for range weight {
			sum += steps[letter]
			count++
		}
	}
	if count == 0 {
		return nil, false
	}
	return big.NewRat(int64(sum), int64(count)), true
}

func TestAreLettersIsOfAscendingLists(t *testing.T) {
	for _, tab := range tablesForMessages() {
		for _, list := range letterLists(tab) {
			if are, ok := impl.AreLetters(tab, list); !ok || !are {
				t.Errorf("AreLetters(%q, %v) = %v, %v", tab.Marks, list, are, ok)
			}
		}
		for _, list := range notLetters(tab) {
			if are, ok := impl.AreLetters(tab, list); !ok || are {
				t.Errorf("AreLetters(%q, %.50v) = %v, %v", tab.Marks, list, are, ok)
			}
		}
	}
	four := table(".", "-", "..", "--")
	for _, text := range append(textsOf("01234", 4), "01230", "00123", "01233") {
		list := []int{}
		for _, sign := range text {
			list = append(list, int(sign-'0'))
		}
		want := len(list) > 0 && slices.Max(list) < 4 && slices.IsSorted(list) && len(slices.Compact(slices.Clone(list))) == len(list)
		if are, ok := impl.AreLetters(four, list); !ok || are != want {
			t.Errorf("AreLetters(%v) = %v, %v", list, are, ok)
		}
	}
}

func TestLettersBehindAreInTheOrderOfPlaces(t *testing.T) {
	for _, tab := range tablesForTelling() {
		for _, heard := range nodeTexts() {
			want := []int{}
			for letter, marks := range tab.Marks {
				if len(marks) >= len(heard) && marks[:len(heard)] == heard {
					want = append(want, letter)
				}
			}
			if got, ok := impl.LettersBehind(tab, heard); !ok || !slices.Equal(got, want) {
				t.Fatalf("LettersBehind(%q, %q) = %v, %v, not %v", tab.Marks, heard, got, ok, want)
			}
		}
	}
	tab := table("--", ".-.", "-", ".....", "..", ".-")
	for heard, want := range map[string][]int{"": {0, 1, 2, 3, 4, 5}, ".": {1, 3, 4, 5}, "-": {0, 2}, ".-": {1, 5}, "..": {3, 4}, "....": {3}, ".....": {3}, "....-": {}, "-.": {}, "-----": {}, "--": {0}, ".-.": {1}, ".-.-": {}} {
		if got, ok := impl.LettersBehind(tab, heard); !ok || !slices.Equal(got, want) {
			t.Errorf("LettersBehind(%q) = %v, %v, not %v", heard, got, ok, want)
		}
	}
	for _, tab := range tablesForMessages() {
		for _, other := range append(otherMarks(), "------", "......-") {
			if got, ok := impl.LettersBehind(tab, other); ok || len(got) != 0 {
				t.Errorf("LettersBehind(%q, %.20q) = %v, %v", tab.Marks, other, got, ok)
			}
		}
	}
}

func TestLettersAreHeardUntilTheyAreTold(t *testing.T) {
	for _, tab := range append(tablesForTelling(), manyTables()...) {
		for letter, marks := range tab.Marks {
			want := heardByHand(tab, letter)
			got, ok := impl.HeardUntil(tab, letter)
			if !ok || got != want || got > len(marks)+1 {
				t.Fatalf("HeardUntil(%q, %d) = %d, %v, not %d", tab.Marks, letter, got, ok, want)
			}
			if got > len(marks) {
				continue
			}
			behind, ok := impl.LettersBehind(tab, marks[:got])
			if !ok || !slices.Equal(behind, []int{letter}) {
				t.Fatalf("%q: %d is not told by %q", tab.Marks, letter, marks[:got])
			}
		}
	}
	for _, x := range []struct {
		tab  impl.Table
		want []int
	}{
		// One letter is told before anything is heard.
		{table("."), []int{0}}, {table("-----"), []int{0}}, {table(".", "-"), []int{1, 1}}, {table("-----", "....."), []int{1, 1}}, {table(".", "-", ".-"), []int{2, 1, 2}}, {table(".-", "."), []int{2, 2}}, {table(".", "....."), []int{2, 2}},
		{table(".", "..", "...", "....", "....."), []int{2, 3, 4, 5, 5}}, {table("-----", "----", "---"), []int{5, 5, 4}}, {table(".....", "....-", "-"), []int{5, 5, 1}}, {table("-.-", "-.-.-", "--", "-.."), []int{4, 4, 2, 3}}, {table("..-..", "..---", ".-", "-....", "--"), []int{4, 4, 2, 2, 2}},
	} {
		for letter, want := range x.want {
			if got, ok := impl.HeardUntil(x.tab, letter); !ok || got != want {
				t.Errorf("HeardUntil(%q, %d) = %d, %v, not %d", x.tab.Marks, letter, got, ok, want)
			}
		}
	}
}

// checkMeans compares both means with letters that are told one by one.
func checkMeans(t *testing.T, tab impl.Table, weights, heard, asked []int) {
	t.Helper()
	byHearing, one := impl.MeanHeard(tab, weights)
	byAsking, two := impl.MeanAsked(tab, weights)
	wantHeard, ok := meanByHand(heard, weights)
	wantAsked, _ := meanByHand(asked, weights)
	if one != ok || two != ok {
		t.Fatalf("%q, %v: %v, %v, not %v", tab.Marks, weights, one, two, ok)
	}
	if !ok {
		if byHearing != [2]int{} || byAsking != [2]int{} {
			t.Fatalf("%q, %v: %v, %v", tab.Marks, weights, byHearing, byAsking)
		}
		return
	}
	if rat(t, byHearing).Cmp(wantHeard) != 0 || rat(t, byAsking).Cmp(wantAsked) != 0 {
		t.Fatalf("%q, %v: %v, %v, not %v, %v", tab.Marks, weights, byHearing, byAsking, wantHeard, wantAsked)
	}
}

func TestMeanStepsAreOverAllLetters(t *testing.T) {
	for _, tab := range tablesForTelling() {
		heard, asked := []int{}, []int{}
		for letter := range tab.Marks {
			heard = append(heard, heardByHand(tab, letter))
			asked = append(asked, len(askedByHand(tab, letter)))
		}
		for _, weights := range weightLists(len(tab.Marks)) {
			checkMeans(t, tab, weights, heard, asked)
		}
	}
}

func TestMeanStepsThatAreWrittenOut(t *testing.T) {
	begin := table(".", "-", ".-")
	one := table(".....", "-....", ".-...", "..-..", "...-.", "....-")
	for _, x := range []struct {
		tab          impl.Table
		weights      []int
		heard, asked [2]int
	}{
		{table("."), []int{1}, [2]int{0, 1}, [2]int{0, 1}}, {table("-.-.-"), []int{99}, [2]int{0, 1}, [2]int{0, 1}}, {table("-", "."), []int{7, 3}, [2]int{1, 1}, [2]int{1, 1}},
		{begin, []int{1, 1, 2}, [2]int{7, 4}, [2]int{7, 4}}, {begin, []int{0, 1, 0}, [2]int{1, 1}, [2]int{1, 1}}, {begin, []int{99, 0, 99}, [2]int{2, 1}, [2]int{2, 1}}, {begin, []int{99, 99, 99}, [2]int{5, 3}, [2]int{5, 3}}, {begin, []int{2, 4, 4}, [2]int{8, 5}, [2]int{8, 5}},
		// Asking for place 1 tells letters at once of which two have to be heard.
		{table("..", ".-", "-"), []int{1, 1, 1}, [2]int{5, 3}, [2]int{1, 1}}, {table(".....", "....-", "-"), []int{0, 5, 5}, [2]int{3, 1}, [2]int{1, 1}},
		{one, []int{1, 1, 1, 1, 1, 1}, [2]int{10, 3}, [2]int{10, 3}}, {one, []int{99, 0, 0, 0, 0, 1}, [2]int{5, 1}, [2]int{5, 1}}, {one, []int{1, 1, 0, 0, 0, 0}, [2]int{3, 1}, [2]int{3, 1}},
	} {
		heard, fine := impl.MeanHeard(x.tab, x.weights)
		asked, also := impl.MeanAsked(x.tab, x.weights)
		if !fine || !also || heard != x.heard || asked != x.asked {
			t.Errorf("%q, %v: %v, %v, %v, %v, not %v, %v", x.tab.Marks, x.weights, heard, fine, asked, also, x.heard, x.asked)
		}
	}
}

func TestMeanStepsFail(t *testing.T) {
	check := func(tab impl.Table, weights []int) {
		t.Helper()
		heard, one := impl.MeanHeard(tab, weights)
		asked, two := impl.MeanAsked(tab, weights)
		if one || two || heard != [2]int{} || asked != [2]int{} {
			t.Errorf("%.20q, %.50v: %v, %v, %v, %v", tab.Marks, weights, heard, one, asked, two)
		}
	}
	for _, tab := range tablesForMessages() {
		n := len(tab.Marks)
		for _, weights := range notWeights() {
			check(tab, weights)
		}
		check(tab, slices.Repeat([]int{0}, n))
		for _, others := range []int{0, n - 1, n + 1, n + 2, 100} {
			check(tab, slices.Repeat([]int{1}, others))
		}
		for letter := range n {
			for _, other := range []int{-1, -99, 100, 101, math.MinInt, math.MaxInt, 1 << 32, 1<<32 + 1} {
				weights := slices.Repeat([]int{5}, n)
				weights[letter] = other
				check(tab, weights)
			}
		}
	}
	for _, none := range tablesThatAreNone() {
		for n := range 12 {
			check(none, slices.Repeat([]int{1}, n))
		}
	}
}

func TestAnswersAreWhatIsAtAPlace(t *testing.T) {
	for _, tab := range tablesForTelling() {
		for letter, marks := range tab.Marks {
			for place := range impl.MaxMarks {
				if got, ok := impl.AnswerTo(tab, letter, place); !ok || got != answerByHand(marks, place) {
					t.Errorf("AnswerTo(%q, %d, %d) = %d, %v", tab.Marks, letter, place, got, ok)
				}
			}
		}
	}
	tab := table(".", "-.--", "-...-", ".----")
	for letter, answers := range []string{"02222", "10112", "10001", "01111"} {
		for place := range impl.MaxMarks {
			if got, ok := impl.AnswerTo(tab, letter, place); !ok || got != int(answers[place]-'0') {
				t.Errorf("AnswerTo(%d, %d) = %d, %v", letter, place, got, ok)
			}
		}
	}
}

func checkPartBy(t *testing.T, tab impl.Table, letters []int, place int, want [3][]int) {
	t.Helper()
	parts, ok := impl.PartBy(tab, letters, place)
	if !ok {
		t.Fatalf("PartBy(%q, %v, %d) fails", tab.Marks, letters, place)
	}
	together := []int{}
	for answer, part := range parts {
		if !slices.Equal(part, want[answer]) {
			t.Fatalf("PartBy(%q, %v, %d) = %v, not %v", tab.Marks, letters, place, parts, want)
		}
		together = append(together, part...)
	}
	slices.Sort(together)
	if !slices.Equal(together, letters) {
		t.Fatalf("PartBy(%q, %v, %d) = %v are not all letters together", tab.Marks, letters, place, parts)
	}
}

func TestPartsAreAllLettersTogether(t *testing.T) {
	for _, tab := range tablesForTelling() {
		for i, letters := range letterLists(tab) {
			if i%7 != 0 && len(letters) < len(tab.Marks) {
				continue
			}
			for place := range impl.MaxMarks {
				checkPartBy(t, tab, letters, place, partsByHand(tab, letters, place))
			}
		}
	}
	tab := table(".", "-", ".-", "--.", "-----", "..")
	for _, x := range []struct {
		letters []int
		place   int
		want    [3][]int
	}{
		{[]int{0, 1, 2, 3, 4, 5}, 0, [3][]int{{0, 2, 5}, {1, 3, 4}, {}}}, {[]int{0, 1, 2, 3, 4, 5}, 1, [3][]int{{5}, {2, 3, 4}, {0, 1}}}, {[]int{0, 1, 2, 3, 4, 5}, 2, [3][]int{{3}, {4}, {0, 1, 2, 5}}}, {[]int{0, 1, 2, 3, 4, 5}, 3, [3][]int{{}, {4}, {0, 1, 2, 3, 5}}}, {[]int{0, 1, 2, 3, 4, 5}, 4, [3][]int{{}, {4}, {0, 1, 2, 3, 5}}},
		{[]int{0}, 0, [3][]int{{0}, {}, {}}}, {[]int{4}, 4, [3][]int{{}, {4}, {}}}, {[]int{3}, 4, [3][]int{{}, {}, {3}}}, {[]int{1, 3, 5}, 1, [3][]int{{5}, {3}, {1}}}, {[]int{0, 1, 2}, 4, [3][]int{{}, {}, {0, 1, 2}}},
	} {
		checkPartBy(t, tab, x.letters, x.place, x.want)
	}
}

func checkNoParts(t *testing.T, tab impl.Table, letters []int, place int) {
	t.Helper()
	parts, ok := impl.PartBy(tab, letters, place)
	if ok || len(parts[0])+len(parts[1])+len(parts[2]) != 0 {
		t.Errorf("PartBy(%.20q, %.50v, %d) = %v, %v", tab.Marks, letters, place, parts, ok)
	}
}

func TestPlacesThatAreNoneFail(t *testing.T) {
	for _, tab := range tablesForMessages() {
		for _, place := range otherAsks() {
			for letter := range tab.Marks {
				if got, ok := impl.AnswerTo(tab, letter, place); ok || got != 0 {
					t.Errorf("AnswerTo(%q, %d, %d) = %d, %v", tab.Marks, letter, place, got, ok)
				}
				checkNoParts(t, tab, []int{letter}, place)
			}
			checkNoParts(t, tab, wholeList(tab), place)
			checkNoParts(t, tab, nil, place)
		}
	}
}

// checkTelling compares all that is told of letters with what is found by hand.
func checkTelling(t *testing.T, tab impl.Table, letters []int) {
	t.Helper()
	depth, ok := impl.DepthOf(tab, letters)
	if !ok || depth != depthByHand(tab, letters) || depth > len(letters)-1 {
		t.Fatalf("DepthOf(%q, %v) = %d, %v, not %d", tab.Marks, letters, depth, ok, depthByHand(tab, letters))
	}
	vain, wantVain := []int{}, []int{}
	for place := range impl.MaxMarks {
		if len(lettersLeft(partsByHand(tab, letters, place))) == 1 {
			wantVain = append(wantVain, place)
		}
	}
	if vain, ok = impl.VainPlaces(tab, letters); !ok || !slices.Equal(vain, wantVain) {
		t.Fatalf("VainPlaces(%q, %v) = %v, %v, not %v", tab.Marks, letters, vain, ok, wantVain)
	}
	best, one := impl.BestAsk(tab, letters)
	first, two := impl.AsksFirst(tab, letters)
	if len(letters) == 1 {
		if one || two || best != 0 || first || depth != 0 {
			t.Fatalf("%q, %v: %d, %v, %v, %v, %d", tab.Marks, letters, best, one, first, two, depth)
		}
		return
	}
	if want := bestAskByHand(tab, letters); !one || best != want {
		t.Fatalf("BestAsk(%q, %v) = %d, %v, not %d", tab.Marks, letters, best, one, want)
	}
	if want := winnerByHand(tab, letters, 0) == 0; !two || first != want {
		t.Fatalf("AsksFirst(%q, %v) = %v, %v, not %v", tab.Marks, letters, first, two, want)
	}
}

func TestLettersAreToldByWhatIsAskedFor(t *testing.T) {
	for _, tab := range append(tablesForTelling(), longerTables()...) {
		all := wholeList(tab)
		checkTelling(t, tab, all)
		depth, _ := impl.DepthOf(tab, all)
		longest := 0
		for letter, marks := range tab.Marks {
			asked, ok := impl.AskedFor(tab, letter)
			if want := askedByHand(tab, letter); !ok || !slices.Equal(asked, want) {
				t.Fatalf("AskedFor(%q, %d) = %v, %v, not %v", tab.Marks, letter, asked, ok, want)
			}
			longest = max(longest, len(asked))
			for other, otherMarks := range tab.Marks {
				isSame := true
				for _, place := range asked {
					isSame = isSame && answerByHand(marks, place) == answerByHand(otherMarks, place)
				}
				if isSame != (other == letter) {
					t.Fatalf("%q: %v do not tell %d from %d", tab.Marks, asked, letter, other)
				}
			}
		}
		if longest != depth {
			t.Fatalf("%q: %d questions are asked, and the depth is %d", tab.Marks, longest, depth)
		}
	}
}

func TestAllListsOfLettersAreTold(t *testing.T) {
	for _, tab := range manyTables() {
		for _, letters := range letterLists(tab) {
			checkTelling(t, tab, letters)
		}
	}
	for i, tab := range tablesForTelling() {
		for k, letters := range letterLists(tab) {
			if len(tab.Marks) <= 6 || (i+k)%11 == 0 {
				checkTelling(t, tab, letters)
			}
		}
	}
}

func TestGamesThatAreWrittenOut(t *testing.T) {
	even := table("...", "..-", ".-.", ".--", "-..", "-.-", "--.", "---")
	one := table(".....", "-....", ".-...", "..-..", "...-.", "....-")
	mixed := table(".", "-", "..", ".-", "-.", "--", "...", "..-", ".-.", ".--")
	for _, x := range []struct {
		tab         impl.Table
		letters     []int
		depth, best int
		vain        []int
		first       bool
	}{
		{table(".", "-"), []int{0, 1}, 1, 0, []int{1, 2, 3, 4}, true}, {table("....-", "....."), []int{0, 1}, 1, 4, []int{0, 1, 2, 3}, true}, {table("-", "--"), []int{0, 1}, 1, 1, []int{0, 2, 3, 4}, true}, {table(".", "-----"), []int{0, 1}, 1, 0, nil, true}, {table(".-.-", ".-.-."), []int{0, 1}, 1, 4, []int{0, 1, 2, 3}, true},
		// One question parts all three, or none does.
		{table("..", ".-", "-"), []int{0, 1, 2}, 1, 1, []int{2, 3, 4}, true}, {table("-.-.-", "-.-..", "-.-."), []int{0, 1, 2}, 1, 4, []int{0, 1, 2, 3}, true}, {table(".", "-", ".-"), []int{0, 1, 2}, 2, 0, []int{2, 3, 4}, false}, {table("..", ".-", "-."), []int{0, 1, 2}, 2, 0, []int{2, 3, 4}, false},
		// With two parts each time, the one who asks for the first of four loses, and of eight wins.
		{even, []int{0, 1, 2, 3}, 2, 1, []int{0, 3, 4}, false}, {even, []int{0, 1, 4, 5}, 2, 0, []int{1, 3, 4}, false}, {even, []int{0, 1, 2, 3, 4, 5, 6, 7}, 3, 0, []int{3, 4}, true}, {even, []int{0, 3, 5, 6}, 2, 0, []int{3, 4}, false}, {even, []int{0, 7}, 1, 0, []int{3, 4}, true}, {even, []int{2, 3}, 1, 2, []int{0, 1, 3, 4}, true},
		// Each question tells one letter alone.
		{one, []int{0, 1, 2, 3, 4, 5}, 5, 0, nil, true}, {one, []int{0, 1, 2, 3, 4}, 4, 0, []int{4}, false}, {one, []int{0, 2, 3, 4, 5}, 4, 1, []int{0}, false}, {one, []int{0, 3, 4, 5}, 3, 2, []int{0, 1}, true}, {one, []int{1, 2, 3}, 2, 0, []int{3, 4}, false}, {one, []int{4, 5}, 1, 3, []int{0, 1, 2}, true},
		// Each place that parts all ten leaves two or three letters for some answer, and one more question parts these.
		{mixed, []int{0, 1, 2, 3, 4, 5, 6, 7, 8, 9}, 3, 0, []int{3, 4}, false}, {mixed, []int{6, 7}, 1, 2, []int{0, 1, 3, 4}, true}, {mixed, []int{0, 1, 2, 3, 4, 5}, 2, 0, []int{2, 3, 4}, false}, {mixed, []int{2, 6, 7}, 1, 2, []int{0, 1, 3, 4}, true}, {mixed, []int{2, 3, 6, 7, 8, 9}, 2, 1, []int{0, 3, 4}, false}, {mixed, []int{0, 1, 2, 3, 4}, 2, 0, []int{2, 3, 4}, false},
	} {
		checkTelling(t, x.tab, x.letters)
		depth, one := impl.DepthOf(x.tab, x.letters)
		best, two := impl.BestAsk(x.tab, x.letters)
		vain, three := impl.VainPlaces(x.tab, x.letters)
		first, four := impl.AsksFirst(x.tab, x.letters)
		if !one || !two || !three || !four || depth != x.depth || best != x.best || !slices.Equal(vain, x.vain) || first != x.first {
			t.Errorf("%q, %v: %d, %d, %v, %v, not %d, %d, %v, %v", x.tab.Marks, x.letters, depth, best, vain, first, x.depth, x.best, x.vain, x.first)
		}
	}
}

func TestAskedForThatIsWrittenOut(t *testing.T) {
	for _, x := range []struct {
		tab  impl.Table
		want [][]int
	}{
		{table("."), [][]int{{}}}, {table("-----"), [][]int{{}}}, {table(".", "-"), [][]int{{0}, {0}}}, {table(".....", "....-"), [][]int{{4}, {4}}}, {table("-", "--"), [][]int{{1}, {1}}}, {table(".", "-", ".-"), [][]int{{0, 1}, {0}, {0, 1}}}, {table("..", ".-", "-"), [][]int{{1}, {1}, {1}}},
		{table(".....", "-....", ".-...", "..-..", "...-.", "....-"), [][]int{{0, 1, 2, 3, 4}, {0}, {0, 1}, {0, 1, 2}, {0, 1, 2, 3}, {0, 1, 2, 3, 4}}}, {table("--", "-.", ".-", ".."), [][]int{{0, 1}, {0, 1}, {0, 1}, {0, 1}}},
		// Place 0 would tell the last letter at once, but not all of them with two questions.
		{table("..", ".-.", ".--", ".-", "-"), [][]int{{1}, {1, 2}, {1, 2}, {1, 2}, {1}}},
		{table(".", "....-", "....", ".....", "-"), [][]int{{1, 0}, {1, 4}, {1, 4}, {1, 4}, {1, 0}}},
	} {
		for letter, want := range x.want {
			if asked, ok := impl.AskedFor(x.tab, letter); !ok || !slices.Equal(asked, want) {
				t.Errorf("AskedFor(%q, %d) = %v, %v, not %v", x.tab.Marks, letter, asked, ok, want)
			}
		}
	}
}

func TestOneLetterIsToldAtOnce(t *testing.T) {
	for _, tab := range tablesForMessages() {
		for letter := range tab.Marks {
			list := []int{letter}
			depth, one := impl.DepthOf(tab, list)
			vain, two := impl.VainPlaces(tab, list)
			best, three := impl.BestAsk(tab, list)
			first, four := impl.AsksFirst(tab, list)
			if !one || !two || three || four || depth != 0 || !slices.Equal(vain, []int{0, 1, 2, 3, 4}) || best != 0 || first {
				t.Errorf("%q, %d: %d, %v, %v, %v, %d, %v, %v, %v", tab.Marks, letter, depth, one, vain, two, best, three, first, four)
			}
		}
	}
}

// checkNotTold checks that everything that takes a list of letters fails.
func checkNotTold(t *testing.T, tab impl.Table, letters []int) {
	t.Helper()
	depth, one := impl.DepthOf(tab, letters)
	best, two := impl.BestAsk(tab, letters)
	vain, three := impl.VainPlaces(tab, letters)
	first, four := impl.AsksFirst(tab, letters)
	if one || two || three || four || depth != 0 || best != 0 || len(vain) != 0 || first {
		t.Errorf("%.20q, %.50v: %d, %v, %d, %v, %v, %v, %v, %v", tab.Marks, letters, depth, one, best, two, vain, three, first, four)
	}
	for place := range impl.MaxMarks {
		checkNoParts(t, tab, letters, place)
	}
}

// checkNoAnswer checks that everything that takes a letter fails.
func checkNoAnswer(t *testing.T, tab impl.Table, letter int) {
	t.Helper()
	heard, one := impl.HeardUntil(tab, letter)
	asked, two := impl.AskedFor(tab, letter)
	if one || two || heard != 0 || len(asked) != 0 {
		t.Errorf("%.20q, %d: %d, %v, %v, %v", tab.Marks, letter, heard, one, asked, two)
	}
	for place := -1; place <= impl.MaxMarks; place++ {
		if answer, ok := impl.AnswerTo(tab, letter, place); ok || answer != 0 {
			t.Errorf("AnswerTo(%.20q, %d, %d) = %d, %v", tab.Marks, letter, place, answer, ok)
		}
	}
}

func TestLettersThatAreNoneFail(t *testing.T) {
	for _, tab := range tablesForMessages() {
		for _, letters := range notLetters(tab) {
			checkNotTold(t, tab, letters)
		}
		for _, other := range otherPlaces(tab) {
			checkNoAnswer(t, tab, other)
		}
	}
}

func TestTellingOfNoTableFails(t *testing.T) {
	for _, none := range tablesThatAreNone() {
		for _, letters := range [][]int{nil, {}, {0}, {1}, {0, 1}, {1, 0}, {0, 1, 2}, {-1}, {0, 1, 2, 3, 4, 5, 6, 7, 8, 9, 10}} {
			if are, ok := impl.AreLetters(none, letters); ok || are {
				t.Errorf("AreLetters(%.20q, %v) = %v, %v", none.Marks, letters, are, ok)
			}
			checkNotTold(t, none, letters)
		}
		for _, letter := range []int{0, 1, 2, -1, 10} {
			checkNoAnswer(t, none, letter)
		}
		for _, heard := range []string{"", ".", "-----", "......", "a"} {
			if behind, ok := impl.LettersBehind(none, heard); ok || len(behind) != 0 {
				t.Errorf("LettersBehind(%.20q, %q) = %v, %v", none.Marks, heard, behind, ok)
			}
		}
	}
}

func TestTellingModifiesNothingAndSharesNothing(t *testing.T) {
	marks := []string{".", "-", ".-", "--.", "-----", "..", "-.-"}
	allLetters := []int{0, 1, 2, 3, 4, 5, 3, 1}
	allWeights := []int{1, 5, 0, 99, 3, 2, 7, 8}
	tab, letters, weights := impl.Table{Marks: marks[:6]}, allLetters[:6], allWeights[:6]
	for range 2 {
		behind, _ := impl.LettersBehind(tab, ".")
		all, _ := impl.LettersBehind(tab, "")
		asked, _ := impl.AskedFor(tab, 3)
		vain, _ := impl.VainPlaces(tab, letters[:3])
		parts, _ := impl.PartBy(tab, letters, 1)
		alone, _ := impl.PartBy(tab, letters, 4)
		if !slices.Equal(behind, []int{0, 2, 5}) || !slices.Equal(all, []int{0, 1, 2, 3, 4, 5}) || !slices.Equal(asked, []int{0, 2}) || !slices.Equal(vain, []int{2, 3, 4}) {
			t.Fatal(behind, all, asked, vain)
		}
		// What is written into results must not be seen by arguments or by other results.
		for _, list := range [][]int{behind, all, asked, vain, parts[0], parts[2], alone[0], alone[2]} {
			for i := range list[:cap(list)] {
				list[:cap(list)][i] = 77
			}
		}
		if !slices.Equal(parts[1], []int{2, 3, 4}) || !slices.Equal(alone[1], []int{4}) {
			t.Fatal("results share memory", parts, alone)
		}
		for _, list := range [][]int{parts[1], alone[1]} {
			for i := range list[:cap(list)] {
				list[:cap(list)][i] = 77
			}
		}
		impl.AreLetters(tab, letters)
		impl.HeardUntil(tab, 0)
		impl.MeanHeard(tab, weights)
		impl.AnswerTo(tab, 5, 1)
		impl.DepthOf(tab, letters)
		impl.BestAsk(tab, letters)
		impl.MeanAsked(tab, weights)
		impl.AsksFirst(tab, letters)
		// Lists in another order are none of letters, and are not put in order, either.
		slices.Reverse(letters)
		impl.AreLetters(tab, letters)
		checkNotTold(t, tab, letters)
		slices.Reverse(letters)
		if !slices.Equal(marks, []string{".", "-", ".-", "--.", "-----", "..", "-.-"}) || !slices.Equal(allLetters, []int{0, 1, 2, 3, 4, 5, 3, 1}) || !slices.Equal(allWeights, []int{1, 5, 0, 99, 3, 2, 7, 8}) {
			t.Fatal("arguments are modified", marks, allLetters, allWeights)
		}
	}
}
