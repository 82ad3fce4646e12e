package tests

import (
	"math"
	"math/big"
	"slices"
	"strings"
	"testing"

	"loop.example/g01248/impl"
)

func noise(num, den int) impl.Noise { return impl.Noise{Num: num, Den: den} }

// noises has no noise, noise that turns each mark, noise that tells nothing, and, with great
// denominators without common divisors, those for which numbers become the greatest.
func noises() []impl.Noise {
	return []impl.Noise{
		noise(0, 1), noise(1, 1), noise(0, 100), noise(100, 100), noise(0, 7), noise(7, 7),
		noise(1, 2), noise(50, 100), noise(1, 10), noise(9, 10), noise(10, 100), noise(2, 6),
		noise(1, 100), noise(99, 100), noise(1, 99), noise(1, 97), noise(37, 97), noise(48, 97), noise(96, 97), noise(49, 99), noise(51, 100), noise(49, 100),
	}
}

func notNoises() []impl.Noise {
	return []impl.Noise{
		{}, noise(1, 0), noise(-1, 10), noise(-1, 1), noise(2, 1), noise(11, 10), noise(101, 100), noise(0, 101), noise(1, 101), noise(101, 101), noise(0, -1), noise(-1, -1), noise(1, -10), noise(-1, -10),
		noise(math.MinInt, 1), noise(math.MaxInt, 1), noise(0, math.MinInt), noise(0, math.MaxInt), noise(math.MinInt, math.MinInt), noise(math.MaxInt, math.MaxInt), noise(1<<32, 1), noise(0, 1<<32+1),
	}
}

// tablesForNoise has Tables in which no two letters have as many marks, in which all have, and
// such that have all texts of some number of marks.
func tablesForNoise() []impl.Table {
	tables := append(tablesForMessages(),
		table(".", "..", "...", "....", "....."), table("-----", "-.-", "--", ".", "-..-"), table("-", "..--"),
		table("..", ".-", "-.", "--"), table("--", "..", ".", "-.", ".-"), table("...", "..-", ".-.", ".--", "-..", "-.-", "--.", "---"), table("---", "-.-", "...", "..-", "--.", ".--", "-..", ".-.", ".", "-"),
		table(".....", "-----"), table("-----", "....-", ".....", "-...."), table("..-..", "--.--", ".", "-.-.-", "-.-.", ".-.-", "-....", "....-", ".---.", "-"),
		table(".----", "..---", "...--", "....-", ".....", "-....", "--...", "---..", "----.", "-----"),
	)
	longer := longerTables()
	for i := 0; i < len(longer); i += 40 {
		tables = append(tables, longer[i])
	}
	return tables
}

// rat returns a fraction that has been checked to be one in lowest terms.
func rat(t *testing.T, fraction [2]int) *big.Rat {
	t.Helper()
	if fraction[1] < 1 {
		t.Fatalf("%v is no fraction", fraction)
	}
	r := big.NewRat(int64(fraction[0]), int64(fraction[1]))
	if r.Num().Int64() != int64(fraction[0]) || r.Denom().Int64() != int64(fraction[1]) {
		t.Fatalf("%v has a common divisor", fraction)
	}
	return r
}

// chanceByHand multiplies the chances of all marks, without any bounds.
func chanceByHand(n impl.Noise, sent, comes string) *big.Rat {
	if len(sent) != len(comes) {
		return new(big.Rat)
	}
	chance := big.NewRat(1, 1)
	for i := range len(sent) {
		num := n.Num
		if sent[i] == comes[i] {
			num = n.Den - n.Num
		}
		chance.Mul(chance, big.NewRat(int64(num), int64(n.Den)))
	}
	return chance
}

func sumByHand(chances ...*big.Rat) *big.Rat {
	sum := new(big.Rat)
	for _, chance := range chances {
		sum.Add(sum, chance)
	}
	return sum
}

// differByHand counts the places at which two texts of as many marks differ.
func differByHand(a, b string) int {
	differ := 0
	for i := range len(a) {
		if a[i:i+1] != b[i:i+1] {
			differ++
		}
	}
	return differ
}

func TestIsNoise(t *testing.T) {
	for den := -3; den <= 105; den++ {
		for num := -3; num <= 105; num++ {
			want := den > 0 && den < 101 && num > -1 && num < den+1
			if impl.IsNoise(noise(num, den)) != want {
				t.Errorf("IsNoise of %d in %d is %v", num, den, !want)
			}
		}
	}
	for _, n := range noises() {
		if !impl.IsNoise(n) {
			t.Errorf("IsNoise(%v) is false", n)
		}
	}
	for _, n := range notNoises() {
		if impl.IsNoise(n) {
			t.Errorf("IsNoise(%v) is true", n)
		}
	}
}

func TestChancesThatMarksComeAreThoseByHand(t *testing.T) {
	texts := textsOf(".-", impl.MaxMarks)[1:]
	for _, n := range noises() {
		for _, sent := range texts {
			all := new(big.Rat)
			for _, comes := range texts {
				got, ok := impl.ChanceComes(n, sent, comes)
				chance := rat(t, got)
				if !ok || chance.Cmp(chanceByHand(n, sent, comes)) != 0 {
					t.Fatalf("ChanceComes(%v, %q, %q) = %v, %v", n, sent, comes, got, ok)
				}
				all.Add(all, chance)
			}
			if all.Cmp(big.NewRat(1, 1)) != 0 {
				t.Fatalf("%v: what comes of %q is %v together", n, sent, all)
			}
		}
	}
}

func TestChancesOfAllNoises(t *testing.T) {
	for den := 1; den <= 100; den++ {
		for num := 0; num <= den; num++ {
			n := noise(num, den)
			for _, x := range [][2]string{{".", "."}, {".", "-"}, {"-----", "-----"}, {".....", "-----"}, {"-.-.-", "-.--."}} {
				if got, ok := impl.ChanceComes(n, x[0], x[1]); !ok || rat(t, got).Cmp(chanceByHand(n, x[0], x[1])) != 0 {
					t.Fatalf("ChanceComes(%v, %q, %q) = %v, %v", n, x[0], x[1], got, ok)
				}
			}
		}
	}
}

func TestChancesThatAreWrittenOut(t *testing.T) {
	for _, x := range []struct {
		n           impl.Noise
		sent, comes string
		want        [2]int
	}{
		{noise(1, 10), ".", ".", [2]int{9, 10}}, {noise(1, 10), ".", "-", [2]int{1, 10}}, {noise(10, 100), "-", "-", [2]int{9, 10}}, {noise(1, 10), "..", "-.", [2]int{9, 100}}, {noise(2, 10), "-.-", "--.", [2]int{4, 125}},
		{noise(1, 10), ".", "..", [2]int{0, 1}}, {noise(1, 10), "-.", "-", [2]int{0, 1}}, {noise(0, 1), ".", "..", [2]int{0, 1}}, {noise(1, 1), ".", "--", [2]int{0, 1}}, {noise(1, 1), "--", ".", [2]int{0, 1}}, {noise(1, 2), ".....", "----", [2]int{0, 1}},
		{noise(0, 1), "-.-", "-.-", [2]int{1, 1}}, {noise(0, 100), "-.-", "-.-", [2]int{1, 1}}, {noise(0, 100), "-.-", "-..", [2]int{0, 1}}, {noise(0, 1), ".", "-", [2]int{0, 1}},
		{noise(1, 1), "-.-", "-.-", [2]int{0, 1}}, {noise(1, 1), "-.-", ".-.", [2]int{1, 1}}, {noise(100, 100), "-----", ".....", [2]int{1, 1}}, {noise(100, 100), "-----", "....-", [2]int{0, 1}}, {noise(5, 5), ".", ".", [2]int{0, 1}},
		{noise(1, 2), "..", "-.", [2]int{1, 4}}, {noise(50, 100), ".....", "-----", [2]int{1, 32}}, {noise(1, 100), ".....", "-----", [2]int{1, 10000000000}}, {noise(1, 100), ".....", ".....", [2]int{9509900499, 10000000000}}, {noise(96, 97), "-.-.-", ".-.-.", [2]int{8153726976, 8587340257}},
	} {
		if got, ok := impl.ChanceComes(x.n, x.sent, x.comes); !ok || got != x.want {
			t.Errorf("ChanceComes(%v, %q, %q) = %v, %v, not %v", x.n, x.sent, x.comes, got, ok, x.want)
		}
	}
}

func TestChanceComesFails(t *testing.T) {
	check := func(n impl.Noise, sent, comes string) {
		if got, ok := impl.ChanceComes(n, sent, comes); ok || got != [2]int{} {
			t.Errorf("ChanceComes(%v, %.20q, %.20q) = %v, %v", n, sent, comes, got, ok)
		}
	}
	for _, n := range notNoises() {
		check(n, ".", ".")
		check(n, ".", "-")
		check(n, "..", "-----")
		check(n, "", "x")
	}
	for _, n := range noises() {
		for _, other := range append(otherMarks(), "") {
			check(n, other, ".")
			check(n, ".....", other)
			check(n, other, other)
		}
	}
}

func TestWhatIsReadAndWhatIsNotAreOneTogether(t *testing.T) {
	for _, tab := range tablesForNoise() {
		for _, n := range noises() {
			for letter, sent := range tab.Marks {
				row, ok := impl.ReadTable(tab, n, letter)
				if !ok || len(row) != len(tab.Marks) {
					t.Fatalf("ReadTable(%q, %v, %d) = %v, %v", tab.Marks, n, letter, row, ok)
				}
				none, ok := impl.ChanceUnread(tab, n, letter)
				if want := unreadByHand(tab, n, sent); !ok || rat(t, none).Cmp(want) != 0 {
					t.Fatalf("ChanceUnread(%q, %v, %d) = %v, %v, not %v", tab.Marks, n, letter, none, ok, want)
				}
				all := rat(t, none)
				for as, comes := range tab.Marks {
					got, ok := impl.ChanceRead(tab, n, letter, as)
					if !ok || got != row[as] || rat(t, got).Cmp(chanceByHand(n, sent, comes)) != 0 {
						t.Fatalf("ChanceRead(%q, %v, %d, %d) = %v, %v, and ReadTable has %v", tab.Marks, n, letter, as, got, ok, row[as])
					}
					all.Add(all, rat(t, got))
				}
				if all.Cmp(big.NewRat(1, 1)) != 0 {
					t.Fatalf("%q, %v: %v and %v are %v together", tab.Marks, n, row, none, all)
				}
			}
		}
	}
}

// unreadByHand adds the chances of all that comes and is no letter's.
func unreadByHand(tab impl.Table, n impl.Noise, sent string) *big.Rat {
	chance := new(big.Rat)
	for _, comes := range textsOf(".-", impl.MaxMarks)[1:] {
		if !slices.Contains(tab.Marks, comes) {
			chance.Add(chance, chanceByHand(n, sent, comes))
		}
	}
	return chance
}

func TestReadTablesThatAreWrittenOut(t *testing.T) {
	for _, x := range []struct {
		tab    impl.Table
		n      impl.Noise
		letter int
		row    [][2]int
		none   [2]int
	}{
		{table("."), noise(1, 10), 0, [][2]int{{9, 10}}, [2]int{1, 10}}, {table("."), noise(0, 100), 0, [][2]int{{1, 1}}, [2]int{0, 1}}, {table("-----"), noise(100, 100), 0, [][2]int{{0, 1}}, [2]int{1, 1}},
		{table(".", "-", ".-"), noise(1, 10), 0, [][2]int{{9, 10}, {1, 10}, {0, 1}}, [2]int{0, 1}}, {table(".", "-", ".-"), noise(1, 10), 2, [][2]int{{0, 1}, {0, 1}, {81, 100}}, [2]int{19, 100}},
		{table(".", "-", ".-"), noise(1, 1), 0, [][2]int{{0, 1}, {1, 1}, {0, 1}}, [2]int{0, 1}}, {table(".", "-", ".-"), noise(0, 1), 1, [][2]int{{0, 1}, {1, 1}, {0, 1}}, [2]int{0, 1}},
		{table("--", "..", "-."), noise(1, 3), 0, [][2]int{{4, 9}, {1, 9}, {2, 9}}, [2]int{2, 9}}, {table("..", ".-", "-.", "--"), noise(1, 2), 1, [][2]int{{1, 4}, {1, 4}, {1, 4}, {1, 4}}, [2]int{0, 1}},
		{table(".....", "-----", "...."), noise(1, 100), 0, [][2]int{{9509900499, 10000000000}, {1, 10000000000}, {0, 1}}, [2]int{980199, 20000000}},
	} {
		row, ok := impl.ReadTable(x.tab, x.n, x.letter)
		none, also := impl.ChanceUnread(x.tab, x.n, x.letter)
		if !ok || !also || !slices.Equal(row, x.row) || none != x.none {
			t.Errorf("%q, %v, %d: %v, %v, not %v, %v", x.tab.Marks, x.n, x.letter, row, none, x.row, x.none)
		}
	}
}

func TestWithoutNoiseNothingIsReadAsAnother(t *testing.T) {
	for _, tab := range tablesForNoise() {
		for _, den := range []int{1, 2, 10, 97, 100} {
			n := noise(0, den)
			for letter, marks := range tab.Marks {
				for as := range tab.Marks {
					want := [2]int{0, 1}
					if as == letter {
						want = [2]int{1, 1}
					}
					if got, ok := impl.ChanceRead(tab, n, letter, as); !ok || got != want {
						t.Errorf("ChanceRead(%q, %v, %d, %d) = %v, %v", tab.Marks, n, letter, as, got, ok)
					}
				}
				none, one := impl.ChanceUnread(tab, n, letter)
				best, two := impl.BestGuess(tab, n, marks)
				if !one || !two || none != [2]int{0, 1} || best != letter {
					t.Errorf("%q, %v, %d: %v, %d", tab.Marks, n, letter, none, best)
				}
			}
			for _, m := range append(longMessages(tab), "", "a", "a a") {
				wrong, one := impl.MeanWrong(tab, n, m)
				flips, two := impl.MeanFlips(tab, n, m)
				if !one || !two || wrong != [2]int{0, 1} || flips != [2]int{0, 1} {
					t.Errorf("%q, %v, %q: %v, %v", tab.Marks, n, m, wrong, flips)
				}
			}
			if right, ok := impl.ChanceRight(tab, n); !ok || right != [2]int{1, 1} {
				t.Errorf("ChanceRight(%q, %v) = %v, %v", tab.Marks, n, right, ok)
			}
		}
	}
}

func TestChancesSentAreThoseByHand(t *testing.T) {
	for _, tab := range tablesForNoise() {
		for _, n := range noises() {
			for _, comes := range textsOf(".-", impl.MaxMarks)[1:] {
				checkChancesSent(t, tab, n, comes)
			}
		}
	}
}

// checkChancesSent shares what comes among the letters, as often as it comes of each of them.
func checkChancesSent(t *testing.T, tab impl.Table, n impl.Noise, comes string) {
	t.Helper()
	of := []*big.Rat{}
	for _, sent := range tab.Marks {
		of = append(of, chanceByHand(n, sent, comes))
	}
	all := sumByHand(of...)
	chances, ok := impl.ChancesSent(tab, n, comes)
	best, also := impl.BestGuess(tab, n, comes)
	if all.Sign() == 0 {
		if ok || also || len(chances) != 0 || best != 0 {
			t.Fatalf("%q, %v: %q comes of no letter, but %v, %v, %d, %v", tab.Marks, n, comes, chances, ok, best, also)
		}
		return
	}
	if !ok || !also || len(chances) != len(tab.Marks) || best < 0 || best >= len(chances) {
		t.Fatalf("%q, %v, %q: %v, %v, %d, %v", tab.Marks, n, comes, chances, ok, best, also)
	}
	sum := new(big.Rat)
	for letter, chance := range chances {
		if rat(t, chance).Cmp(new(big.Rat).Quo(of[letter], all)) != 0 {
			t.Fatalf("ChancesSent(%q, %v, %q) = %v", tab.Marks, n, comes, chances)
		}
		sum.Add(sum, rat(t, chance))
		order := of[letter].Cmp(of[best])
		if order > 0 || order == 0 && letter < best {
			t.Fatalf("BestGuess(%q, %v, %q) = %d, but the chances are %v", tab.Marks, n, comes, best, chances)
		}
	}
	if sum.Cmp(big.NewRat(1, 1)) != 0 {
		t.Fatalf("ChancesSent(%q, %v, %q) are %v together", tab.Marks, n, comes, sum)
	}
}

func TestChancesSentThatAreWrittenOut(t *testing.T) {
	for _, x := range []struct {
		tab   impl.Table
		n     impl.Noise
		comes string
		want  [][2]int
		best  int
	}{
		{table("."), noise(1, 10), "-", [][2]int{{1, 1}}, 0}, {table("."), noise(1, 1), "-", [][2]int{{1, 1}}, 0}, {table("."), noise(0, 1), ".", [][2]int{{1, 1}}, 0}, {table("....."), noise(1, 100), "-----", [][2]int{{1, 1}}, 0},
		{table(".", "-", ".-"), noise(1, 10), ".", [][2]int{{9, 10}, {1, 10}, {0, 1}}, 0}, {table(".", "-", ".-"), noise(1, 10), "-", [][2]int{{1, 10}, {9, 10}, {0, 1}}, 1}, {table(".", "-", ".-"), noise(1, 10), "-.", [][2]int{{0, 1}, {0, 1}, {1, 1}}, 2},
		{table(".", "-", ".-"), noise(9, 10), ".", [][2]int{{1, 10}, {9, 10}, {0, 1}}, 1}, {table(".", "-", ".-"), noise(1, 1), ".", [][2]int{{0, 1}, {1, 1}, {0, 1}}, 1}, {table(".", "-", ".-"), noise(0, 1), "-", [][2]int{{0, 1}, {1, 1}, {0, 1}}, 1},
		// Of letters with the same chance the first one is guessed, though an earlier one has fewer marks.
		{table("-", "--", ".."), noise(1, 10), ".-", [][2]int{{0, 1}, {1, 2}, {1, 2}}, 1}, {table(".", "..", "--", "-."), noise(1, 2), "--", [][2]int{{0, 1}, {1, 3}, {1, 3}, {1, 3}}, 1}, {table("...", "--", "-."), noise(1, 3), ".-", [][2]int{{0, 1}, {2, 3}, {1, 3}}, 1},
		{table("-----", "....-", "....."), noise(1, 100), ".....", [][2]int{{1, 9605960101}, {96059601, 9605960101}, {9509900499, 9605960101}}, 2},
	} {
		chances, ok := impl.ChancesSent(x.tab, x.n, x.comes)
		best, also := impl.BestGuess(x.tab, x.n, x.comes)
		if !ok || !also || !slices.Equal(chances, x.want) || best != x.best {
			t.Errorf("%q, %v, %q: %v, %d, not %v, %d", x.tab.Marks, x.n, x.comes, chances, best, x.want, x.best)
		}
	}
}

func TestMarksThatCanComeOfNoLetter(t *testing.T) {
	tab := table(".", "-.", ".----")
	for _, x := range []struct {
		n     impl.Noise
		comes string
		can   bool
	}{
		{noise(1, 10), "...", false}, {noise(1, 10), "....", false}, {noise(1, 10), "-", true}, {noise(1, 10), ".-", true}, {noise(99, 100), ".....", true},
		{noise(0, 1), "-", false}, {noise(0, 100), "..", false}, {noise(0, 3), "-----", false}, {noise(0, 1), "---", false}, {noise(0, 100), "-.", true}, {noise(0, 1), ".----", true},
		{noise(1, 1), ".", false}, {noise(100, 100), "-.", false}, {noise(3, 3), ".----", false}, {noise(1, 1), "...", false}, {noise(1, 1), "-", true}, {noise(100, 100), ".-", true}, {noise(100, 100), "-....", true},
	} {
		chances, ok := impl.ChancesSent(tab, x.n, x.comes)
		best, also := impl.BestGuess(tab, x.n, x.comes)
		if ok != x.can || also != x.can || !ok && (len(chances) != 0 || best != 0) {
			t.Errorf("%v, %q: %v, %v, %d, %v", x.n, x.comes, chances, ok, best, also)
		}
	}
}

// meansByHand goes through all that can come of a message: each mark turned or not, together.
func meansByHand(tab impl.Table, n impl.Noise, m string) (*big.Rat, *big.Rat) {
	bare := marksByHand(tab, strings.ReplaceAll(m, " ", ""))
	wrong, flips := new(big.Rat), new(big.Rat)
	for turned := range 1 << len(bare) {
		come := []byte(bare)
		for i := range come {
			if turned>>i&1 == 1 {
				come[i] = '.' + '-' - come[i]
			}
		}
		chance := chanceByHand(n, bare, string(come))
		flips.Add(flips, new(big.Rat).Mul(chance, big.NewRat(int64(differByHand(bare, string(come))), 1)))
		wrong.Add(wrong, new(big.Rat).Mul(chance, big.NewRat(wrongByHand(tab, m, string(come)), 1)))
	}
	return wrong, flips
}

// wrongByHand counts the letters of a message of which the marks that come are no longer theirs.
func wrongByHand(tab impl.Table, m, come string) int64 {
	wrong := int64(0)
	for _, letter := range strings.ReplaceAll(m, " ", "") {
		marks := tab.Marks[letter-'a']
		if slices.Index(tab.Marks, come[:len(marks)]) != int(letter-'a') {
			wrong++
		}
		come = come[len(marks):]
	}
	return wrong
}

func TestMeansAreThoseOfAllThatCanCome(t *testing.T) {
	for _, tab := range tablesForNoise() {
		last := string('a' + byte(len(tab.Marks)-1))
		for _, m := range []string{"", "a", last, "aa", "a " + last, last + " a", "a a a", last + last + " a"} {
			if len(marksByHand(tab, strings.ReplaceAll(m, " ", ""))) > 8 {
				continue
			}
			for _, n := range noises() {
				wrong, flips := meansByHand(tab, n, m)
				one, ok := impl.MeanWrong(tab, n, m)
				two, also := impl.MeanFlips(tab, n, m)
				if !ok || !also || rat(t, one).Cmp(wrong) != 0 || rat(t, two).Cmp(flips) != 0 {
					t.Fatalf("%q, %v, %q: %v, %v, not %v, %v", tab.Marks, n, m, one, two, wrong, flips)
				}
			}
		}
	}
}

func TestMeansOfLongMessages(t *testing.T) {
	for _, tab := range tablesForNoise() {
		for _, n := range noises() {
			for _, m := range append(longMessages(tab), "", "a", "a a") {
				wrong, flips := new(big.Rat), new(big.Rat)
				for _, letter := range strings.ReplaceAll(m, " ", "") {
					marks := tab.Marks[letter-'a']
					wrong.Add(wrong, new(big.Rat).Sub(big.NewRat(1, 1), chanceByHand(n, marks, marks)))
					flips.Add(flips, big.NewRat(int64(n.Num*len(marks)), int64(n.Den)))
				}
				one, ok := impl.MeanWrong(tab, n, m)
				two, also := impl.MeanFlips(tab, n, m)
				if !ok || !also || rat(t, one).Cmp(wrong) != 0 || rat(t, two).Cmp(flips) != 0 {
					t.Fatalf("%q, %v, %q: %v, %v, not %v, %v", tab.Marks, n, m, one, two, wrong, flips)
				}
				if rat(t, one).Cmp(rat(t, two)) > 0 {
					t.Fatalf("%q, %v, %q: more letters wrong than marks turned, %v and %v", tab.Marks, n, m, one, two)
				}
			}
		}
	}
}

func TestMeansThatAreWrittenOut(t *testing.T) {
	tab := table(".", "-", ".-", ".....")
	for _, x := range []struct {
		n            impl.Noise
		m            string
		wrong, flips [2]int
	}{
		{noise(1, 10), "", [2]int{0, 1}, [2]int{0, 1}}, {noise(0, 100), "", [2]int{0, 1}, [2]int{0, 1}}, {noise(1, 1), "", [2]int{0, 1}, [2]int{0, 1}}, {noise(100, 100), "", [2]int{0, 1}, [2]int{0, 1}},
		{noise(1, 10), "a", [2]int{1, 10}, [2]int{1, 10}}, {noise(1, 10), "ac", [2]int{29, 100}, [2]int{3, 10}}, {noise(1, 10), "a c", [2]int{29, 100}, [2]int{3, 10}}, {noise(1, 10), "aaaaaaaaaa", [2]int{1, 1}, [2]int{1, 1}}, {noise(1, 2), "bb", [2]int{1, 1}, [2]int{1, 1}},
		{noise(1, 1), "a b cd", [2]int{4, 1}, [2]int{9, 1}}, {noise(100, 100), "dddddddddddd", [2]int{12, 1}, [2]int{60, 1}}, {noise(100, 100), "d d d d d d", [2]int{6, 1}, [2]int{30, 1}}, {noise(0, 1), "dddddddddddd", [2]int{0, 1}, [2]int{0, 1}},
		{noise(1, 100), "dddddddddddd", [2]int{1470298503, 2500000000}, [2]int{3, 5}}, {noise(25, 100), "cc ", [2]int{}, [2]int{}}, {noise(25, 100), "cc", [2]int{7, 8}, [2]int{1, 1}},
	} {
		fine := x.wrong[1] > 0
		wrong, ok := impl.MeanWrong(tab, x.n, x.m)
		flips, also := impl.MeanFlips(tab, x.n, x.m)
		if ok != fine || also != fine || wrong != x.wrong || flips != x.flips {
			t.Errorf("%v, %q: %v, %v, %v, %v, not %v, %v", x.n, x.m, wrong, ok, flips, also, x.wrong, x.flips)
		}
	}
}

func TestChanceRightIsTheMeanOfAllLetters(t *testing.T) {
	for _, tab := range tablesForNoise() {
		for _, n := range noises() {
			want := new(big.Rat)
			for _, marks := range tab.Marks {
				want.Add(want, chanceByHand(n, marks, marks))
			}
			want.Quo(want, big.NewRat(int64(len(tab.Marks)), 1))
			if got, ok := impl.ChanceRight(tab, n); !ok || rat(t, got).Cmp(want) != 0 {
				t.Fatalf("ChanceRight(%q, %v) = %v, %v, not %v", tab.Marks, n, got, ok, want)
			}
		}
	}
	for _, x := range []struct {
		tab  impl.Table
		n    impl.Noise
		want [2]int
	}{
		{table(".", "-", ".-"), noise(1, 10), [2]int{87, 100}}, {table("."), noise(1, 10), [2]int{9, 10}}, {table("....."), noise(1, 100), [2]int{9509900499, 10000000000}}, {table(".", "--"), noise(1, 1), [2]int{0, 1}}, {table(".", "--"), noise(100, 100), [2]int{0, 1}}, {table(".", "--"), noise(0, 100), [2]int{1, 1}}, {table("-", ".."), noise(1, 2), [2]int{3, 8}},
	} {
		if got, ok := impl.ChanceRight(x.tab, x.n); !ok || got != x.want {
			t.Errorf("ChanceRight(%q, %v) = %v, %v, not %v", x.tab.Marks, x.n, got, ok, x.want)
		}
	}
}

func TestLettersThatAreClose(t *testing.T) {
	for _, tab := range append(tablesForNoise(), manyTables()...) {
		least := 0
		for d := impl.MaxMarks; d >= 1; d-- {
			want := [][2]int{}
			for i, a := range tab.Marks {
				for j, b := range tab.Marks {
					if i < j && len(a) == len(b) && differByHand(a, b) <= d {
						want = append(want, [2]int{i, j})
					}
				}
			}
			if len(want) > 0 {
				least = d
			}
			if pairs, ok := impl.ClosePairs(tab, d); !ok || !slices.Equal(pairs, want) {
				t.Fatalf("ClosePairs(%q, %d) = %v, %v, not %v", tab.Marks, d, pairs, ok, want)
			}
		}
		if got, ok := impl.LeastApart(tab); ok != (least > 0) || got != least {
			t.Fatalf("LeastApart(%q) = %d, %v, not %d", tab.Marks, got, ok, least)
		}
	}
}

func TestClosePairsThatAreWrittenOut(t *testing.T) {
	for _, x := range []struct {
		tab   impl.Table
		least int
		pairs [5][][2]int
	}{
		{table("."), 0, [5][][2]int{}}, {table("-----"), 0, [5][][2]int{}}, {table(".", "..", "...", "....", "....."), 0, [5][][2]int{}}, {table("-", ".-"), 0, [5][][2]int{}},
		{table(".", "-", ".-"), 1, [5][][2]int{{{0, 1}}, {{0, 1}}, {{0, 1}}, {{0, 1}}, {{0, 1}}}}, {table("--", ".", ".."), 2, [5][][2]int{{}, {{0, 2}}, {{0, 2}}, {{0, 2}}, {{0, 2}}}},
		{table(".....", "-----"), 5, [5][][2]int{{}, {}, {}, {}, {{0, 1}}}}, {table("----", "...", "....", "-.-"), 2, [5][][2]int{{}, {{1, 3}}, {{1, 3}}, {{0, 2}, {1, 3}}, {{0, 2}, {1, 3}}}},
		// One mark lost and one more lead from the first to the second one, too, but only places count.
		{table(".-.-.", "-.-.-", "..-.-"), 1, [5][][2]int{{{1, 2}}, {{1, 2}}, {{1, 2}}, {{0, 2}, {1, 2}}, {{0, 1}, {0, 2}, {1, 2}}}},
	} {
		if least, ok := impl.LeastApart(x.tab); ok != (x.least > 0) || least != x.least {
			t.Errorf("LeastApart(%q) = %d, %v, not %d", x.tab.Marks, least, ok, x.least)
		}
		for i, want := range x.pairs {
			if pairs, ok := impl.ClosePairs(x.tab, i+1); !ok || !slices.Equal(pairs, want) {
				t.Errorf("ClosePairs(%q, %d) = %v, %v, not %v", x.tab.Marks, i+1, pairs, ok, want)
			}
		}
	}
}

// checkNoiseFailures checks all functions that take a Table and a Noise, one of which is none.
func checkNoiseFailures(t *testing.T, tab impl.Table, n impl.Noise) {
	t.Helper()
	for letter := range 2 {
		checkNoLetter(t, tab, n, letter, 0)
	}
	for _, comes := range []string{".", "-----", "", "x"} {
		checkNoMarks(t, tab, n, comes)
	}
	for _, m := range []string{"", "a", "a a", " "} {
		checkNoMessage(t, tab, n, m)
	}
	if right, ok := impl.ChanceRight(tab, n); ok || right != [2]int{} {
		t.Errorf("ChanceRight(%.20q, %v) = %v, %v", tab.Marks, n, right, ok)
	}
}

func checkNoLetter(t *testing.T, tab impl.Table, n impl.Noise, letter, as int) {
	t.Helper()
	one, first := impl.ChanceRead(tab, n, letter, as)
	two, second := impl.ChanceRead(tab, n, as, letter)
	row, third := impl.ReadTable(tab, n, letter)
	none, fourth := impl.ChanceUnread(tab, n, letter)
	if first || second || third || fourth || one != [2]int{} || two != [2]int{} || len(row) != 0 || none != [2]int{} {
		t.Errorf("%.20q, %v, %d: %v, %v, %v, %v", tab.Marks, n, letter, one, two, row, none)
	}
}

func checkNoMarks(t *testing.T, tab impl.Table, n impl.Noise, comes string) {
	t.Helper()
	chances, one := impl.ChancesSent(tab, n, comes)
	best, two := impl.BestGuess(tab, n, comes)
	if one || two || len(chances) != 0 || best != 0 {
		t.Errorf("%.20q, %v, %.20q: %v, %v, %d, %v", tab.Marks, n, comes, chances, one, best, two)
	}
}

func checkNoMessage(t *testing.T, tab impl.Table, n impl.Noise, m string) {
	t.Helper()
	wrong, one := impl.MeanWrong(tab, n, m)
	flips, two := impl.MeanFlips(tab, n, m)
	if one || two || wrong != [2]int{} || flips != [2]int{} {
		t.Errorf("%.20q, %v, %.20q: %v, %v, %v, %v", tab.Marks, n, m, wrong, one, flips, two)
	}
}

func TestNoiseFunctionsFailForOtherTablesAndNoises(t *testing.T) {
	for _, none := range tablesThatAreNone() {
		for _, n := range []impl.Noise{noise(1, 10), noise(0, 1), noise(100, 100), noise(1, 0)} {
			checkNoiseFailures(t, none, n)
		}
		least, ok := impl.LeastApart(none)
		if ok || least != 0 {
			t.Errorf("LeastApart = %d, %v", least, ok)
		}
		for d := range impl.MaxMarks + 2 {
			if pairs, ok := impl.ClosePairs(none, d); ok || len(pairs) != 0 {
				t.Errorf("ClosePairs = %v, %v", pairs, ok)
			}
		}
	}
	for _, n := range notNoises() {
		for _, tab := range tablesForMessages() {
			checkNoiseFailures(t, tab, n)
		}
	}
}

func TestNoiseFunctionsFailForOtherLettersMarksAndMessages(t *testing.T) {
	for _, tab := range tablesForMessages() {
		for _, n := range noises()[:9] {
			for _, other := range otherPlaces(tab) {
				checkNoLetter(t, tab, n, other, 0)
				checkNoLetter(t, tab, n, other, other)
			}
			for _, marks := range append(otherMarks(), "") {
				checkNoMarks(t, tab, n, marks)
			}
			for _, m := range notMessages(tab) {
				checkNoMessage(t, tab, n, m)
			}
		}
		for _, d := range []int{0, -1, 6, 7, math.MinInt, math.MaxInt, 1 << 32, 1<<32 + 1} {
			if pairs, ok := impl.ClosePairs(tab, d); ok || len(pairs) != 0 {
				t.Errorf("ClosePairs(%q, %d) = %v, %v", tab.Marks, d, pairs, ok)
			}
		}
	}
}

func TestNoiseFunctionsModifyNothingAndShareNothing(t *testing.T) {
	marks := []string{".", "-", ".-", "--", ".."}
	tab := impl.Table{Marks: marks[:4]}
	n := noise(1, 10)
	for range 2 {
		row, _ := impl.ReadTable(tab, n, 2)
		sent, _ := impl.ChancesSent(tab, n, "-.")
		pairs, _ := impl.ClosePairs(tab, 1)
		if !slices.Equal(row, [][2]int{{0, 1}, {0, 1}, {81, 100}, {9, 100}}) || !slices.Equal(sent, [][2]int{{0, 1}, {0, 1}, {1, 10}, {9, 10}}) || !slices.Equal(pairs, [][2]int{{0, 1}, {2, 3}}) {
			t.Fatal(row, sent, pairs)
		}
		// What is written into results must not be seen by the next calls.
		for _, list := range [][][2]int{row, sent, pairs} {
			for i := range list {
				list[i] = [2]int{9, 9}
			}
		}
		impl.ChanceUnread(tab, n, 3)
		impl.BestGuess(tab, n, "..")
		impl.MeanWrong(tab, n, "ab cd")
		impl.MeanFlips(tab, n, "ab cd")
		impl.ChanceRight(tab, n)
		impl.LeastApart(tab)
		if !slices.Equal(marks, []string{".", "-", ".-", "--", ".."}) {
			t.Fatal("arguments are modified", marks)
		}
	}
}
