package tests

import (
	"fmt"
	"math"
	"math/rand/v2"
	"regexp"
	"slices"
	"strconv"
	"strings"
	"testing"

	"loop.example/g01248/impl"
)

func station(tab impl.Table, said string, count int) impl.Station {
	return impl.Station{Code: strings.Join(tab.Marks, ","), Said: said, Count: count}
}

// stations has, for each Table, the empty message, short ones and the longest ones, with no Keys so
// far and with many.
func stations() []impl.Station {
	counts := []int{0, 1, 500, 998, 999, 1000}
	list := []impl.Station{}
	for _, tab := range tablesForMessages() {
		last := "abcdefghij"[len(tab.Marks)-1 : len(tab.Marks)]
		for _, said := range append([]string{"", "a", "a " + last, last + "a", last + " a a"}, longMessages(tab)...) {
			list = append(list, station(tab, said, counts[len(list)%len(counts)]))
		}
		list = append(list, station(tab, last, 0), station(tab, "", 999), station(tab, last, 1000))
	}
	return list
}

func notStations() []impl.Station {
	list := []impl.Station{{}, {Said: "a"}, {Count: 1}}
	for _, tab := range append(tablesThatAreNone(), table(""), table(".", ""), table("", "."), table(". ", "-"), table(".", " -"), table(".;-"), table(".\n"), table(".", "-", ".")) {
		list = append(list, station(tab, "", 0), station(tab, "a", 1))
	}
	for _, tab := range tablesForMessages() {
		for _, m := range notMessages(tab) {
			list = append(list, station(tab, m, 0))
		}
		for _, count := range []int{-1, -2, 1001, 1002, math.MinInt, math.MaxInt, 1 << 32, -1 << 32} {
			list = append(list, station(tab, "", count), station(tab, "a", count))
		}
	}
	return list
}

// keyByHand makes a Key with the texts of a valid Station, by the table of Keys.
func keyByHand(s impl.Station, k impl.Key) (impl.Station, bool) {
	marks := strings.Split(s.Code, ",")
	isLetter := func(place int) bool { return place >= 0 && place < len(marks) }
	isPossible := s.Count < 1000
	isPossible = isPossible && (k.A == 0 || k.Kind == 1 || k.Kind == 2 || k.Kind == 5) && (k.B == 0 || k.Kind == 5) && (k.Marks == "" || k.Kind == 4)
	switch k.Kind {
	case 1, 2:
		more := map[int]string{1: "", 2: " "}[k.Kind]
		isPossible = isPossible && isLetter(k.A) && len(s.Said)+len(more) < 12 && (k.Kind == 1 || s.Said != "")
		if isPossible {
			s.Said += more + "abcdefghij"[k.A:k.A+1]
		}
	case 3:
		isPossible = isPossible && s.Said != ""
		if isPossible {
			s.Said = strings.TrimSpace(s.Said[:len(s.Said)-1])
		}
	case 4:
		isPossible = isPossible && len(marks) < 10 && slices.Contains(nodeTexts()[1:], k.Marks) && !slices.Contains(marks, k.Marks)
		marks = append(marks, k.Marks)
	case 5:
		isPossible = isPossible && isLetter(k.A) && isLetter(k.B)
		if isPossible {
			marks[k.A], marks[k.B] = marks[k.B], marks[k.A]
		}
	case 6:
		marks = strings.Split(strings.NewReplacer(".", "-", "-", ".").Replace(s.Code), ",")
	case 7:
		// Backwards, the whole text has the letters backwards, too.
		signs := []byte(s.Code)
		slices.Reverse(signs)
		marks = strings.Split(string(signs), ",")
		slices.Reverse(marks)
	default:
		isPossible = false
	}
	if !isPossible {
		return impl.Station{}, false
	}
	return impl.Station{Code: strings.Join(marks, ","), Said: s.Said, Count: s.Count + 1}, true
}

// keysFor has Keys of all kinds, and of kinds beside them, with A, B and Marks where they are named
// and where they are not.
func keysFor(s impl.Station) []impl.Key {
	letters := 1 + strings.Count(s.Code, ",")
	keys := []impl.Key{}
	for kind := -1; kind <= 9; kind++ {
		for _, a := range []int{0, 1, letters - 1, letters, -1} {
			for _, b := range []int{0, 1, letters - 1, letters, -1} {
				for _, marks := range []string{"", ".", "-.-.-", "..-"} {
					keys = append(keys, impl.Key{Kind: kind, A: a, B: b, Marks: marks})
				}
			}
		}
	}
	return keys
}

// farKeys has Keys with numbers that are far away, and with other texts.
func farKeys() []impl.Key {
	keys := []impl.Key{}
	for _, far := range []int{math.MinInt, math.MaxInt, 1 << 32, 1<<32 + 1, -1 << 32, 256, 257, 10, 11, 1 << 21, -97} {
		keys = append(keys, impl.Key{Kind: far})
		for kind := 1; kind <= 7; kind++ {
			keys = append(keys, impl.Key{Kind: kind, A: far}, impl.Key{Kind: kind, B: far}, impl.Key{Kind: kind, A: far, B: far}, impl.Key{Kind: kind, A: far, Marks: "-.-.-"})
		}
	}
	for _, marks := range append(otherMarks(), nodeTexts()...) {
		for kind := 0; kind <= 8; kind++ {
			keys = append(keys, impl.Key{Kind: kind, Marks: marks})
		}
	}
	return keys
}

func TestIsStation(t *testing.T) {
	for _, s := range stations() {
		if !impl.IsStation(s) {
			t.Errorf("IsStation(%v) is false", s)
		}
	}
	for _, s := range notStations() {
		if impl.IsStation(s) {
			t.Errorf("IsStation(%.60q, %d) is true", []string{s.Code, s.Said}, s.Count)
		}
	}
	for _, tab := range []impl.Table{table("-"), table(".", "-")} {
		messages := messagesByHand(tab, 5)
		for _, said := range textsOf("abc ", 5) {
			if got := impl.IsStation(station(tab, said, 3)); got != slices.Contains(messages, said) {
				t.Errorf("IsStation with %q, %q is %v", tab.Marks, said, got)
			}
		}
	}
	for _, code := range textsOf(".-, a", 4) {
		if got := impl.IsStation(impl.Station{Code: code}); got != impl.IsTable(table(strings.Split(code, ",")...)) {
			t.Errorf("IsStation with %q is %v", code, got)
		}
	}
	for count := -3; count <= 1003; count++ {
		if got := impl.IsStation(impl.Station{Code: ".", Count: count}); got != (count >= 0 && count <= impl.MaxKeys) {
			t.Errorf("IsStation with the Count %d is %v", count, got)
		}
	}
}

func TestStationsKeepTheirTables(t *testing.T) {
	for _, tab := range tablesForTrees() {
		s, one := impl.NewStation(tab)
		again, two := impl.TableOfStation(s)
		if !one || !two || s != station(tab, "", 0) || !slices.Equal(again.Marks, tab.Marks) {
			t.Fatalf("NewStation(%q) = %v, %v, with %q, %v", tab.Marks, s, one, again.Marks, two)
		}
	}
	for _, s := range stations() {
		if tab, ok := impl.TableOfStation(s); !ok || strings.Join(tab.Marks, ",") != s.Code {
			t.Errorf("TableOfStation(%v) = %q, %v", s, tab.Marks, ok)
		}
	}
	for _, none := range tablesThatAreNone() {
		if s, ok := impl.NewStation(none); ok || s != (impl.Station{}) {
			t.Errorf("NewStation(%.20q) = %v, %v", none.Marks, s, ok)
		}
	}
	for _, s := range notStations() {
		if tab, ok := impl.TableOfStation(s); ok || len(tab.Marks) != 0 {
			t.Errorf("TableOfStation(%.60q, %d) = %.20q, %v", []string{s.Code, s.Said}, s.Count, tab.Marks, ok)
		}
	}
}

func checkKey(t *testing.T, s impl.Station, k impl.Key) {
	t.Helper()
	want, isPossible := keyByHand(s, k)
	if got, ok := impl.DoKey(s, k); ok != isPossible || got != want || ok && !impl.IsStation(got) {
		t.Fatalf("DoKey(%v, %.60v) = %v, %v, not %v, %v", s, k, got, ok, want, isPossible)
	}
}

func TestKeysTurnStations(t *testing.T) {
	for _, s := range stations() {
		for _, k := range keysFor(s) {
			checkKey(t, s, k)
		}
	}
	for i, s := range stations() {
		if i%5 != 0 {
			continue
		}
		for _, k := range farKeys() {
			checkKey(t, s, k)
		}
	}
}

func TestKeysThatAreWrittenOut(t *testing.T) {
	nine := ".,-,..,.-,-.,--,...,..-,.-."
	for _, x := range []struct {
		s    impl.Station
		k    impl.Key
		want impl.Station
		ok   bool
	}{
		{impl.Station{Code: "."}, impl.Key{Kind: impl.KeyLetter}, impl.Station{Code: ".", Said: "a", Count: 1}, true},
		{impl.Station{Code: "."}, impl.Key{Kind: impl.KeyLetter, A: 1}, impl.Station{}, false},
		{impl.Station{Code: ".,-", Said: "ab", Count: 7}, impl.Key{Kind: impl.KeyWord, A: 1}, impl.Station{Code: ".,-", Said: "ab b", Count: 8}, true},
		{impl.Station{Code: ".,-", Count: 7}, impl.Key{Kind: impl.KeyWord, A: 1}, impl.Station{}, false},
		{impl.Station{Code: ".,-", Said: "ab b", Count: 8}, impl.Key{Kind: impl.KeyErase}, impl.Station{Code: ".,-", Said: "ab", Count: 9}, true},
		{impl.Station{Code: ".,-", Said: "a", Count: 8}, impl.Key{Kind: impl.KeyErase}, impl.Station{Code: ".,-", Count: 9}, true},
		{impl.Station{Code: ".,-", Count: 9}, impl.Key{Kind: impl.KeyErase}, impl.Station{}, false},
		{impl.Station{Code: ".,-", Said: "a"}, impl.Key{Kind: impl.KeyAdd, Marks: "-..-."}, impl.Station{Code: ".,-,-..-.", Said: "a", Count: 1}, true},
		{impl.Station{Code: ".,-", Said: "a"}, impl.Key{Kind: impl.KeyAdd, Marks: "-"}, impl.Station{}, false},
		{impl.Station{Code: ".,-", Said: "a"}, impl.Key{Kind: impl.KeyAdd}, impl.Station{}, false},
		{impl.Station{Code: nine}, impl.Key{Kind: impl.KeyAdd, Marks: ".--"}, impl.Station{Code: nine + ",.--", Count: 1}, true},
		{impl.Station{Code: nine + ",.--"}, impl.Key{Kind: impl.KeyAdd, Marks: "---"}, impl.Station{}, false},
		{impl.Station{Code: nine, Said: "i a"}, impl.Key{Kind: impl.KeySwap, A: 0, B: 8}, impl.Station{Code: ".-.,-,..,.-,-.,--,...,..-,.", Said: "i a", Count: 1}, true},
		{impl.Station{Code: nine}, impl.Key{Kind: impl.KeySwap, A: 4, B: 4}, impl.Station{Code: nine, Count: 1}, true},
		{impl.Station{Code: nine}, impl.Key{Kind: impl.KeySwap, A: 9, B: 0}, impl.Station{}, false},
		{impl.Station{Code: "..-,-"}, impl.Key{Kind: impl.KeyOpposite}, impl.Station{Code: "--.,.", Count: 1}, true},
		{impl.Station{Code: "..-,.---.", Said: "b b"}, impl.Key{Kind: impl.KeyBack}, impl.Station{Code: "-..,.---.", Said: "b b", Count: 1}, true},
		// The longest message, and the most Keys.
		{impl.Station{Code: ".,-", Said: "aaaaaaaaaaa", Count: 999}, impl.Key{Kind: impl.KeyLetter, A: 1}, impl.Station{Code: ".,-", Said: "aaaaaaaaaaab", Count: 1000}, true},
		{impl.Station{Code: ".,-", Said: "aaaaaaaaaaa"}, impl.Key{Kind: impl.KeyWord, A: 1}, impl.Station{}, false},
		{impl.Station{Code: ".,-", Said: "aaaaaaaaaa"}, impl.Key{Kind: impl.KeyWord, A: 1}, impl.Station{Code: ".,-", Said: "aaaaaaaaaa b", Count: 1}, true},
		{impl.Station{Code: ".,-", Said: "aaaaaaaaaaab"}, impl.Key{Kind: impl.KeyLetter}, impl.Station{}, false},
		{impl.Station{Code: ".,-", Count: 1000}, impl.Key{Kind: impl.KeyOpposite}, impl.Station{}, false},
		{impl.Station{Code: ".,-", Said: "a", Count: 1000}, impl.Key{Kind: impl.KeyErase}, impl.Station{}, false},
	} {
		checkKey(t, x.s, x.k)
		if got, ok := impl.DoKey(x.s, x.k); ok != x.ok || got != x.want {
			t.Errorf("DoKey(%v, %v) = %v, %v, not %v", x.s, x.k, got, ok, x.want)
		}
	}
}

func TestWhatIsSaidIsErasedAgain(t *testing.T) {
	for _, s := range stations() {
		letters := 1 + strings.Count(s.Code, ",")
		after := s
		after.Count += 2
		undo := func(first, second impl.Key) {
			t.Helper()
			between, ok := impl.DoKey(s, first)
			if !ok || between.Count == impl.MaxKeys {
				return
			}
			if got, ok := impl.DoKey(between, second); !ok || got != after {
				t.Errorf("%v: behind %v and %v: %v, %v", s, first, second, got, ok)
			}
		}
		for a := range letters {
			undo(impl.Key{Kind: impl.KeyLetter, A: a}, impl.Key{Kind: impl.KeyErase})
			undo(impl.Key{Kind: impl.KeyWord, A: a}, impl.Key{Kind: impl.KeyErase})
			for b := range letters {
				undo(impl.Key{Kind: impl.KeySwap, A: a, B: b}, impl.Key{Kind: impl.KeySwap, A: a, B: b})
			}
		}
		undo(impl.Key{Kind: impl.KeyOpposite}, impl.Key{Kind: impl.KeyOpposite})
		undo(impl.Key{Kind: impl.KeyBack}, impl.Key{Kind: impl.KeyBack})
	}
}

// keysByHand makes Keys one by one, up to the first one that is not possible.
func keysByHand(s impl.Station, list []impl.Key) (impl.Station, int) {
	for many, k := range list {
		next, ok := keyByHand(s, k)
		if !ok {
			return s, many
		}
		s = next
	}
	return s, len(list)
}

func checkKeys(t *testing.T, s impl.Station, list []impl.Key) {
	t.Helper()
	before := slices.Clone(list)
	want, wantMany := keysByHand(s, list)
	got, many, ok := impl.DoKeys(s, list)
	if !ok || got != want || many != wantMany {
		t.Fatalf("DoKeys(%v, %v) = %v, %d, %v, not %v, %d", s, list, got, many, ok, want, wantMany)
	}
	if !slices.Equal(list, before) {
		t.Fatalf("DoKeys has modified %v to %v", before, list)
	}
}

// someKey returns a Key that is often possible.
func someKey(dice *rand.Rand) impl.Key {
	k := impl.Key{Kind: 1 + dice.IntN(7)}
	switch k.Kind {
	case 1, 2:
		k.A = dice.IntN(4)
	case 4:
		k.Marks = nodeTexts()[1+dice.IntN(14)]
	case 5:
		k.A, k.B = dice.IntN(4), dice.IntN(4)
	}
	return k
}

func TestListsOfKeysEndAtTheFirstThatIsNotPossible(t *testing.T) {
	dice := rand.New(rand.NewPCG(12, 1))
	for _, s := range stations() {
		checkKeys(t, s, nil)
		checkKeys(t, s, []impl.Key{})
		for range 30 {
			list := []impl.Key{}
			for range dice.IntN(20) {
				list = append(list, someKey(dice))
			}
			checkKeys(t, s, list)
		}
	}
	s := impl.Station{Code: ".,-,.-"}
	list := []impl.Key{{Kind: impl.KeyLetter, A: 2}, {Kind: impl.KeyWord, A: 1}, {Kind: impl.KeyBack}, {Kind: impl.KeyErase}, {Kind: impl.KeyAdd, Marks: "--"}, {Kind: impl.KeyLetter, A: 3}}
	if got, many, ok := impl.DoKeys(s, list); !ok || many != 6 || got != (impl.Station{Code: ".,-,-.,--", Said: "cd", Count: 6}) {
		t.Errorf("DoKeys = %v, %d, %v", got, many, ok)
	}
	for place := range list {
		for _, none := range []impl.Key{{}, {Kind: 8}, {Kind: impl.KeyErase, A: 1}, {Kind: impl.KeyLetter, A: 9}, {Kind: impl.KeyAdd, Marks: "."}} {
			broken := slices.Insert(slices.Clone(list), place, none)
			checkKeys(t, s, broken)
			if _, many, ok := impl.DoKeys(s, broken); !ok || many != place {
				t.Errorf("DoKeys with %v at %d = %d, %v", none, place, many, ok)
			}
		}
	}
}

func TestKeysUpToTheMostOfThem(t *testing.T) {
	turns := slices.Repeat([]impl.Key{{Kind: impl.KeyOpposite}}, 1200)
	for _, count := range []int{0, 1, 700, 998, 999, 1000} {
		s := impl.Station{Code: ".-", Said: "a", Count: count}
		got, many, ok := impl.DoKeys(s, turns)
		code := map[int]string{0: ".-", 1: "-."}[(1000-count)%2]
		if !ok || many != 1000-count || got != (impl.Station{Code: code, Said: "a", Count: 1000}) {
			t.Errorf("from %d: %v, %d, %v", count, got, many, ok)
		}
	}
}

func TestKeysForNoStationFail(t *testing.T) {
	for _, s := range notStations() {
		for _, k := range []impl.Key{{}, {Kind: impl.KeyLetter}, {Kind: impl.KeyWord}, {Kind: impl.KeyErase}, {Kind: impl.KeyAdd, Marks: "-.-.-"}, {Kind: impl.KeySwap}, {Kind: impl.KeyOpposite}, {Kind: impl.KeyBack}, {Kind: 8}} {
			next, one := impl.DoKey(s, k)
			end, many, two := impl.DoKeys(s, []impl.Key{k})
			if one || two || next != (impl.Station{}) || end != (impl.Station{}) || many != 0 {
				t.Errorf("%.60q, %d, %v: %v, %v, %v, %d, %v", []string{s.Code, s.Said}, s.Count, k, next, one, end, many, two)
			}
		}
		if end, many, ok := impl.DoKeys(s, nil); ok || end != (impl.Station{}) || many != 0 {
			t.Errorf("DoKeys(%.60q, %d) without Keys = %v, %d, %v", []string{s.Code, s.Said}, s.Count, end, many, ok)
		}
	}
}

func record(command, reply string) impl.LogRecord {
	return impl.LogRecord{Command: command, Reply: reply}
}

// someRecords has valid records, some of them as short or as long as they can be.
func someRecords() []impl.LogRecord {
	return []impl.LogRecord{
		record("way", "?"), record("a", ""), record("~", "~"), record(" ", " "), record("  x ", "@"), record("0 1 2", "a@b@c"), record("1", "0 1@2"), record("key 0", "a"), record("!\"$%&'()*+,-./:;<=>?[\\]^_`{|}", "}|{`_^]\\[@?>=<;:/.-,+*)('&%$\"!"),
		record(strings.Repeat("~", 160), strings.Repeat("@", 250)), record(strings.Repeat(" ", 160), ""), record("m", strings.Repeat(" ", 250)), record(strings.Repeat("4", 159), strings.Repeat("5", 249)),
	}
}

func notRecords() []impl.LogRecord {
	list := []impl.LogRecord{{}, record("", "a"), record(strings.Repeat("a", 161), ""), record("a", strings.Repeat("a", 251)), record(strings.Repeat("a", 1000000), ""), record("a", strings.Repeat("a", 1000000)), record("a@", ""), record("@a", ""), record("@", "")}
	for _, sign := range []string{"#", "\n", "\r", "\t", "\x00", "\x1f", "\x7f", "\x80", "\xff", "é", "·"} {
		list = append(list, record(sign, ""), record("a"+sign, ""), record(sign+"a", ""), record("a", sign), record("a", "b"+sign), record("a", sign+"b"))
	}
	return list
}

func TestIsValidRecord(t *testing.T) {
	for _, e := range someRecords() {
		if !impl.IsValidRecord(e) {
			t.Errorf("IsValidRecord(%q) is false", e)
		}
	}
	for _, e := range notRecords() {
		if impl.IsValidRecord(e) {
			t.Errorf("IsValidRecord(%.60q) is true", e)
		}
	}
	for b := range 256 {
		sign := string([]byte{byte(b)})
		fine := b >= 32 && b <= 126 && b != '#'
		for _, text := range []string{sign, sign + "ab", "a" + sign + "b", "ab" + sign} {
			if got := impl.IsValidRecord(record(text, "")); got != (fine && b != '@') {
				t.Errorf("the Command %q: %v", text, got)
			}
			if got := impl.IsValidRecord(record("a", text)); got != fine {
				t.Errorf("the Reply %q: %v", text, got)
			}
		}
	}
	for n := range 300 {
		if got := impl.IsValidRecord(record(strings.Repeat("a", n), "")); got != (n >= 1 && n <= impl.MaxCommand) {
			t.Errorf("a Command of %d bytes: %v", n, got)
		}
		if got := impl.IsValidRecord(record("a", strings.Repeat("a", n))); got != (n <= impl.MaxReply) {
			t.Errorf("a Reply of %d bytes: %v", n, got)
		}
	}
}

func sealedByHand(s string) string { return s + "#" + strconv.Itoa(checksumByHand(s)) + "\n" }

func encodedByHand(k int, e impl.LogRecord) string {
	return sealedByHand(strconv.Itoa(k) + " " + e.Command + "@" + e.Reply)
}

func TestEncodeRecord(t *testing.T) {
	for _, e := range someRecords() {
		for k := range impl.MaxRecords {
			if s, ok := impl.EncodeRecord(k, e); !ok || s != encodedByHand(k, e) {
				t.Errorf("EncodeRecord(%d, %q) = %q, %v", k, e, s, ok)
			}
		}
		for _, k := range []int{-1, -2, 60, 61, 100, math.MinInt, math.MaxInt, 1 << 32, -1 << 32} {
			if s, ok := impl.EncodeRecord(k, e); ok || s != "" {
				t.Errorf("EncodeRecord(%d, %q) = %q, %v", k, e, s, ok)
			}
		}
	}
	for _, e := range notRecords() {
		for _, k := range []int{0, 59, 60} {
			if s, ok := impl.EncodeRecord(k, e); ok || s != "" {
				t.Errorf("EncodeRecord(%d, %.60q) = %q, %v", k, e, s, ok)
			}
		}
	}
}

// recordLists has lists of no records, of some, and of MaxRecords as short and as long as possible.
func recordLists() [][]impl.LogRecord {
	some := someRecords()
	return [][]impl.LogRecord{
		nil, some[:1], some[1:2], some[9:10], some[:2], some[3:6], some, slices.Repeat(some, 5)[:59], slices.Repeat(some, 5)[:60], slices.Repeat(some[1:2], 60), slices.Repeat(some[9:10], 60),
	}
}

// logOf returns the log of records, the first ones of which are durable.
func logOf(records []impl.LogRecord, durable int) impl.Log {
	l := impl.Log{Count: len(records)}
	for k, e := range records {
		if k < durable {
			l.Durable += encodedByHand(k, e)
		} else {
			l.Pending += encodedByHand(k, e)
		}
	}
	return l
}

// logs has all logs of some lists of records, by how many of these are durable.
func logs() []impl.Log {
	list := []impl.Log{}
	for _, records := range recordLists() {
		for durable := 0; durable <= len(records); durable += 1 + len(records)/7 {
			list = append(list, logOf(records, durable))
		}
		list = append(list, logOf(records, len(records)))
	}
	return list
}

// brokenTexts has texts that are not the encodings of two records, the place where the first bytes
// end that are, and how many records these are.
func brokenTexts() map[string][2]int {
	first, second := record("key 1", "b"), record("said", "b")
	one, two := encodedByHand(0, first), encodedByHand(1, second)
	at := [2]int{len(one), 1}
	texts := map[string][2]int{
		two: {}, two + one: {}, one + one: at, one + encodedByHand(2, second): at, one + one + two: at, "\n" + one: {}, one + "\n": at, one + "\n" + two: at, one + "x": at, one + " " + two: at, one + "\r" + two: at,
		one + two[:len(two)-1]: at, one[:len(one)-1]: {}, one[:len(one)-1] + "\r\n": {}, one[:len(one)-1] + two: {}, strings.ReplaceAll(one, "#", ""): {}, "#": {}, "\n": {}, "@": {}, "0 @": {}, "#7\n": {}, "x": {},
		one[:len(one)-1] + "0\n": {}, strings.Replace(one, "#", "#0", 1): {}, strings.Replace(one, "#", "#+", 1): {}, strings.Replace(one, "#", "##", 1): {}, one[:len(one)-1] + "#1\n": {},
	}
	for _, text := range []string{"key 1@b", "0key 1@b", "0", "0 ", "0 key 1", "0 @b", "0  ", "00 key 1@b", "+0 key 1@b", "-0 key 1@b", " 0 key 1@b", "0\tkey 1@b", "a key 1@b", "", "@", " @", "-1 key 1@b", "60 key 1@b"} {
		texts[sealedByHand(text)] = [2]int{}
		texts[sealedByHand(text)+two] = [2]int{}
	}
	for _, none := range notRecords() {
		// A Command with an @ reads as a shorter one, and the rest as a part of the Reply.
		if !strings.Contains(none.Command, "@") && len(none.Command+none.Reply) < 1000 {
			texts[one+encodedByHand(1, none)] = at
		}
	}
	for i := range len(one + two) {
		end := [2]int{}
		if i >= len(one) {
			end = at
		}
		for _, other := range []byte{'\n', '#', '@', ' ', '0', '1', 'a', 0, 255, 255 - (one + two)[i]} {
			if changed := (one + two)[:i] + string([]byte{other}) + (one + two)[i+1:]; changed != one+two {
				texts[changed] = end
			}
		}
		texts[(one + two)[:i]+(one + two)[i+1:]] = end
		texts[(one + two)[:i]+"1"+(one + two)[i:]] = end
	}
	delete(texts, one)
	return texts
}

// notLogs has logs that are not valid, for each reason.
func notLogs() []impl.Log {
	list := []impl.Log{{Count: 1}, {Count: -1}, {Count: math.MinInt}, {Count: math.MaxInt}}
	for text, end := range brokenTexts() {
		for _, count := range []int{end[1], 2} {
			list = append(list, impl.Log{Durable: text, Count: count}, impl.Log{Pending: text, Count: count}, impl.Log{Durable: text[:end[0]], Pending: text[end[0]:], Count: count})
		}
	}
	l := logOf(someRecords(), 6)
	for _, count := range []int{-1, 0, 1, 6, 7, 12, 14, 60, math.MinInt, math.MaxInt, 13 + 1<<32} {
		list = append(list, impl.Log{Durable: l.Durable, Pending: l.Pending, Count: count})
	}
	ends := []int{0}
	for k, e := range someRecords() {
		ends = append(ends, ends[k]+len(encodedByHand(k, e)))
	}
	text := l.Durable + l.Pending
	for cut := range len(text) {
		if !slices.Contains(ends, cut) {
			list = append(list, impl.Log{Durable: text[:cut], Pending: text[cut:], Count: 13})
		}
	}
	long := logOf(slices.Repeat(someRecords()[:1], 61), 60)
	longer := logOf(slices.Repeat(someRecords()[9:10], 100), 30)
	for _, x := range []impl.Log{long, longer} {
		list = append(list, x, impl.Log{Durable: x.Durable, Pending: x.Pending, Count: 60}, impl.Log{Durable: x.Durable + x.Pending, Count: 61}, impl.Log{Pending: x.Durable + x.Pending, Count: 60})
	}
	return append(list, impl.Log{Durable: strings.Repeat("x", 30001)}, impl.Log{Pending: strings.Repeat("\n", 30001)}, impl.Log{Durable: strings.Repeat("\n", 15001), Pending: strings.Repeat("\n", 15000)}, impl.Log{Pending: strings.Repeat("0 a@#\n", 1000000)})
}

func TestLogsHaveTheirRecords(t *testing.T) {
	for _, records := range recordLists() {
		for durable := range len(records) + 1 {
			l := logOf(records, durable)
			got, ok := impl.LogRecords(l)
			if !impl.IsValidLog(l) || !ok || !slices.Equal(got, records) {
				t.Fatalf("%d records, %d durable: %v, %q, %v", len(records), durable, impl.IsValidLog(l), got, ok)
			}
			if synced, ok := impl.SyncLog(l); !ok || synced != logOf(records, len(records)) {
				t.Fatalf("SyncLog of %d records, %d durable = %.200v, %v", len(records), durable, synced, ok)
			}
		}
	}
}

func TestRecordsAreAppendedUntilTheLogIsFull(t *testing.T) {
	some := someRecords()
	for _, at := range []int{-1, 0, 1, 7, 59, 60} {
		l, records, durable := impl.Log{}, []impl.LogRecord{}, 0
		for k := range impl.MaxRecords {
			if k == at {
				l, _ = impl.SyncLog(l)
				durable = k
			}
			e := some[(k*k+at+1)%len(some)]
			records = append(records, e)
			next, code := impl.AppendRecord(l, e)
			if code != impl.LogOK || next != logOf(records, durable) || !impl.IsValidLog(next) {
				t.Fatalf("AppendRecord(%.200v, %q) = %.200v, %d", l, e, next, code)
			}
			l = next
		}
		for _, e := range some {
			if next, code := impl.AppendRecord(l, e); code != impl.LogFull || next != l {
				t.Errorf("AppendRecord to a full log = %.200v, %d", next, code)
			}
		}
		// That a record is not valid comes before that the log is full.
		for _, e := range notRecords() {
			if next, code := impl.AppendRecord(l, e); code != impl.LogInvalid || next != l {
				t.Errorf("AppendRecord(%.60q) to a full log = %.200v, %d", e, next, code)
			}
		}
	}
	for _, l := range logs() {
		for _, e := range notRecords() {
			if next, code := impl.AppendRecord(l, e); code != impl.LogInvalid || next != l {
				t.Errorf("AppendRecord(%.60q) = %.200v, %d", e, next, code)
			}
		}
	}
}

// checkNoLog checks that everything that takes a log fails, or refuses it.
func checkNoLog(t *testing.T, l impl.Log) {
	t.Helper()
	synced, one := impl.SyncLog(l)
	records, two := impl.LogRecords(l)
	at, three := impl.ReplayLog(impl.Station{Code: "."}, l)
	if impl.IsValidLog(l) || one || two || three || synced != (impl.Log{}) || len(records) != 0 || at != 0 {
		t.Errorf("%.200q, %d: %v, %.200v, %v, %q, %v, %d, %v", []string{l.Durable, l.Pending}, l.Count, impl.IsValidLog(l), synced, one, records, two, at, three)
	}
	for _, e := range []impl.LogRecord{record("said", "none"), {}} {
		if next, code := impl.AppendRecord(l, e); code != impl.LogInvalid || next != l {
			t.Errorf("AppendRecord(%.200q, %d) = %.200v, %d", []string{l.Durable, l.Pending}, l.Count, next, code)
		}
	}
	for _, keep := range []int{0, 1, len(l.Pending), len(l.Pending) - 1} {
		for _, torn := range []bool{false, true} {
			if left, ok := impl.CrashLog(l, keep, torn); ok || left != "" {
				t.Errorf("CrashLog(%.200q, %d, %d, %v) = %.60q, %v", []string{l.Durable, l.Pending}, l.Count, keep, torn, left, ok)
			}
		}
	}
}

func TestLogsThatAreNoneFail(t *testing.T) {
	for _, l := range notLogs() {
		checkNoLog(t, l)
	}
}

func checkRecovered(t *testing.T, s string, end, count int) {
	t.Helper()
	l, at, ok := impl.RecoverLog(s)
	if !ok || at != end || l != (impl.Log{Durable: s[:end], Count: count}) || !impl.IsValidLog(l) {
		t.Errorf("RecoverLog(%.200q) = %.200v, %d, %v, not %d with %d records", s, l, at, ok, end, count)
	}
}

func TestCrashedLogsAreRecovered(t *testing.T) {
	for _, records := range recordLists() {
		ends := []int{0}
		for k, e := range records {
			ends = append(ends, ends[k]+len(encodedByHand(k, e)))
		}
		for durable := 0; durable <= len(records); durable += 1 + len(records)/3 {
			l := logOf(records, durable)
			for keep := range len(l.Pending) + 1 {
				at := len(l.Durable) + keep
				isNearEnd := slices.Contains(ends, at-1) || slices.Contains(ends, at) || slices.Contains(ends, at+1)
				// Of full logs, all places would take too long.
				if len(records) < 20 || keep%311 == 0 || len(records)%2 == 1 && isNearEnd {
					checkCrash(t, l, ends, keep)
				}
			}
			checkCrash(t, l, ends, len(l.Pending))
			for _, keep := range []int{-1, -2, len(l.Pending) + 1, len(l.Pending) + 2, math.MinInt, math.MaxInt, 1 << 32, -1 << 32} {
				for _, torn := range []bool{false, true} {
					if left, ok := impl.CrashLog(l, keep, torn); ok || left != "" {
						t.Errorf("CrashLog(%.200v, %d, %v) = %.60q, %v", l, keep, torn, left, ok)
					}
				}
			}
		}
	}
}

// checkCrash checks what is left of a log, and that all records are recovered that have come through.
func checkCrash(t *testing.T, l impl.Log, ends []int, keep int) {
	t.Helper()
	want := []byte(l.Durable + l.Pending[:keep])
	whole, one := impl.CrashLog(l, keep, false)
	if !one || whole != string(want) {
		t.Fatalf("CrashLog(%.200v, %d) = %.200q, %v", l, keep, whole, one)
	}
	checkRecoveredUpTo(t, whole, ends, len(whole))
	intact := len(want)
	if keep > 0 {
		intact--
		want[intact] ^= 255
	}
	torn, two := impl.CrashLog(l, keep, true)
	if !two || torn != string(want) {
		t.Fatalf("CrashLog(%.200v, %d), torn, = %.200q, %v", l, keep, torn, two)
	}
	checkRecoveredUpTo(t, torn, ends, intact)
}

func checkRecoveredUpTo(t *testing.T, s string, ends []int, intact int) {
	t.Helper()
	count := 0
	for count+1 < len(ends) && ends[count+1] <= intact {
		count++
	}
	checkRecovered(t, s, ends[count], count)
}

func TestRecoverLogStopsAtTheFirstLineThatIsNone(t *testing.T) {
	checkRecovered(t, "", 0, 0)
	for text, end := range brokenTexts() {
		checkRecovered(t, text, end[0], end[1])
	}
	for _, records := range [][]impl.LogRecord{slices.Repeat(someRecords()[:1], 61), slices.Repeat(someRecords()[8:9], 100)} {
		most := logOf(records[:60], 60).Durable
		checkRecovered(t, logOf(records, 0).Pending, len(most), 60)
	}
	for _, records := range recordLists() {
		text := logOf(records, 0).Pending
		for _, sign := range []string{"\n", "x", "#", "\xff"} {
			checkRecovered(t, text+strings.Repeat(sign, 30000-len(text)), len(text), len(records))
			for _, more := range []int{1, 2, 100000} {
				if l, at, ok := impl.RecoverLog(text + strings.Repeat(sign, 30000-len(text)+more)); ok || at != 0 || l != (impl.Log{}) {
					t.Errorf("RecoverLog of too many bytes = %.60v, %d, %v", l, at, ok)
				}
			}
		}
	}
}

// commandForms has all commands as the document's table writes them: the first seven are those with
// a Key, in the order of the kinds.
func commandForms() []string {
	return []string{
		"key A", "word A", "erase", "add M", "swap A B", "opposite", "back",
		"table", "said", "signal", "time", "bare", "marks A", "letter M", "readings M", "shortest M", "misleads", "first", "free", "trace A", "wrong", "guess M", "nodes", "grown", "way",
	}
}

// commandPatterns has a pattern for each form, which finds its arguments.
func commandPatterns() []*regexp.Regexp {
	words := strings.NewReplacer("A", `(0|-?[1-9][0-9]{0,5})`, "B", `(0|-?[1-9][0-9]{0,5})`, "M", `([.-]{1,40})`)
	patterns := []*regexp.Regexp{}
	for _, form := range commandForms() {
		patterns = append(patterns, regexp.MustCompile(`\A`+words.Replace(form)+`\z`))
	}
	return patterns
}

// executeByHand returns the Station behind a command and the reply, by the table of commands.
func executeByHand(patterns []*regexp.Regexp, s impl.Station, line string) (impl.Station, string) {
	for i, form := range commandForms() {
		found := patterns[i].FindStringSubmatch(line)
		if found == nil {
			continue
		}
		numbers, marks := [2]int{}, ""
		for k, word := range found[1:] {
			if strings.HasSuffix(form, "M") {
				marks = word
			} else {
				numbers[k], _ = strconv.Atoi(word)
			}
		}
		if i < 7 {
			return pressByHand(s, impl.Key{Kind: i + 1, A: numbers[0], B: numbers[1], Marks: marks})
		}
		told, ok := tellByHand(s, strings.Fields(form)[0], numbers[0], marks)
		return s, toldByHand(told, ok)
	}
	return s, "?"
}

func pressByHand(s impl.Station, k impl.Key) (impl.Station, string) {
	next, ok := keyByHand(s, k)
	if !ok {
		return s, "?"
	}
	if k.Kind <= 3 {
		return next, toldByHand(next.Said, true)
	}
	return next, next.Code
}

func toldByHand(told any, ok bool) string {
	switch {
	case !ok:
		return "?"
	case told == "":
		return "none"
	case told == true:
		return "yes"
	case told == false:
		return "no"
	}
	return fmt.Sprint(told)
}

func anyOf[T any](value T, ok bool) (any, bool) { return value, ok }

// tellByHand returns what a command without a Key tells, and whether it can be told.
func tellByHand(s impl.Station, command string, number int, marks string) (any, bool) {
	tab, said := table(strings.Split(s.Code, ",")...), s.Said
	bare := marksByHand(tab, strings.ReplaceAll(said, " ", ""))
	switch command {
	case "table":
		return s.Code, true
	case "said":
		return said, true
	case "signal":
		return signalByHand(tab, said), true
	case "time":
		return timeByHand(tab, said), true
	case "bare":
		return bare, true
	case "marks":
		return anyOf(impl.MarksOf(tab, number))
	case "letter":
		return anyOf(impl.LetterOf(tab, marks))
	case "readings":
		return anyOf(impl.CountReadings(tab, marks))
	case "shortest":
		return anyOf(impl.ShortestReading(tab, marks))
	case "misleads":
		return anyOf(impl.DoesMislead(tab))
	case "first":
		return anyOf(impl.FirstMisleading(tab))
	case "free":
		return anyOf(impl.IsFreeTable(tab))
	case "trace":
		return 2*len(bare) - 1, bare != "" && number >= 1 && number <= 99
	case "wrong":
		mean, ok := impl.MeanWrong(tab, noise(1, 10), said)
		return fmt.Sprintf("%d/%d", mean[0], mean[1]), ok
	case "guess":
		return anyOf(impl.BestGuess(tab, noise(1, 10), marks))
	case "nodes":
		nodes, ok := impl.FilledNodes(tab)
		return strings.Trim(fmt.Sprint(nodes), "[]"), ok
	case "grown":
		return anyOf(impl.IsGrown(tab))
	case "way":
		return anyOf(impl.WayOfMessage(tab, said))
	}
	return nil, false
}

// checkCommand executes a command in a valid Console that is not full, and compares the reply, the
// Station and the log. It returns the Console behind it.
func checkCommand(t *testing.T, patterns []*regexp.Regexp, c impl.Console, line string) impl.Console {
	t.Helper()
	want := c
	s, wantReply := executeByHand(patterns, c.Station, line)
	want.Station = s
	want.Log.Pending += encodedByHand(c.Log.Count, record(line, wantReply))
	want.Log.Count++
	got, reply := impl.ExecuteCommand(c, line)
	if reply != wantReply || got != want || !impl.IsValidConsole(got) {
		t.Fatalf("ExecuteCommand(%v, %q) = %v, %q, not %v, %q", c, line, got, reply, want, wantReply)
	}
	return got
}

func checkReply(t *testing.T, s impl.Station, line, want string) {
	t.Helper()
	c, ok := impl.NewConsole(s)
	if _, reply := impl.ExecuteCommand(c, line); !ok || reply != want {
		t.Errorf("%v, %q: %q, not %q", s, line, reply, want)
	}
}

// argumentTexts are what can stand behind the first word of a command: arguments that are fine for
// some command, none, malformed ones, and ones too many, with double spaces and at other places.
func argumentTexts() []string {
	return []string{
		"", " ", "  ", " 0", " 1", " 2", " 3", " 5", " 9", " 10", " 11", " 98", " 99", " 100", " 256", " -1", " -5", " 999999", " -999999",
		" 1000000", " -1000000", " 4294967296", " 18446744073709551616", " 00", " 01", " -0", " +1", " 1.", " 0x1", " 1e1", " a", " A", " b", " 0a", " 0,1", " 1_0", "0", " 0/1",
		" .", " -", " ..", " .-", " -.", " --", " -.-", " .-.-", " .....", " -----", " -.-.-", " ......", " -.-.-.", " ..........", " .-.-.-.-.-.-.-.-.-.-.-.-.-.-.-.-.-.-.-.-", " ........................................", " .........................................", " " + strings.Repeat("-", 150),
		" .,-", " ./-", " ._", " .a", " .1", " 1.-", " _", " /", " ,",
		" 0 0", " 0 1", " 1 0", " 1 1", " 0 2", " 2 1", " 0 9", " 9 9", " 0 -1", " -1 0", " 0 10", " 0 00", " 00 0", " 0 a", " 0 .", " . 0", " . .", " - .-", " .- -", " 0 1 2", " 0 0 0", " 0 1 .", " . . .",
		"  0", " 0 ", " 0  1", "  0 1", " 0 1 ", "  .", " . ", " .  -", "   ", " 0  ", " none", " ?",
	}
}

// consoles has Consoles with different Stations and empty logs.
func consoles() []impl.Console {
	list := []impl.Console{}
	for i, s := range stations() {
		if i%3 == 0 {
			list = append(list, impl.Console{Station: s})
		}
	}
	return list
}

func TestConsolesAreStationsWithLogs(t *testing.T) {
	for _, s := range stations() {
		if c, ok := impl.NewConsole(s); !ok || c != (impl.Console{Station: s}) || !impl.IsValidConsole(c) {
			t.Errorf("NewConsole(%v) = %v, %v", s, c, ok)
		}
	}
	for i, l := range logs() {
		if c := (impl.Console{Station: stations()[i], Log: l}); !impl.IsValidConsole(c) {
			t.Errorf("IsValidConsole(%.200v) is false", c)
		}
	}
	for _, s := range notStations() {
		if c, ok := impl.NewConsole(s); ok || c != (impl.Console{}) {
			t.Errorf("NewConsole(%.60q, %d) = %v, %v", []string{s.Code, s.Said}, s.Count, c, ok)
		}
	}
}

// notConsoles has Consoles of which the Station, the log or both are not valid.
func notConsoles() []impl.Console {
	s, l := impl.Station{Code: ".,-", Said: "a b", Count: 5}, logOf(someRecords(), 6)
	list := []impl.Console{{}, {Station: s, Log: impl.Log{Count: 1}}}
	for i, none := range notStations() {
		list = append(list, impl.Console{Station: none}, impl.Console{Station: none, Log: l})
		if i%10 == 0 {
			list = append(list, impl.Console{Station: none, Log: impl.Log{Count: 1}}, impl.Console{Station: none, Log: logOf(recordLists()[9], 60)})
		}
	}
	for i, none := range notLogs() {
		if i%10 == 0 {
			list = append(list, impl.Console{Station: s, Log: none})
		}
	}
	return list
}

func TestNoConsoleExecutesAnything(t *testing.T) {
	for _, c := range notConsoles() {
		if impl.IsValidConsole(c) {
			t.Errorf("IsValidConsole(%.200v) is true", c)
		}
		// That the Console is not valid comes before all about the line and the log.
		for _, line := range []string{"said", "key 0", "", "#", "x", strings.Repeat("a", 161)} {
			if next, reply := impl.ExecuteCommand(c, line); reply != "no" || next != c {
				t.Errorf("ExecuteCommand(%.200v, %q) = %.200v, %q", c, line, next, reply)
			}
			if replies, ok := impl.RunScript(c, line); ok || len(replies) != 0 {
				t.Errorf("RunScript(%.200v, %q) = %q, %v", c, line, replies, ok)
			}
		}
	}
}

func TestLinesThatAreNoCommandsAreBad(t *testing.T) {
	full := impl.Console{Station: impl.Station{Code: "."}, Log: logOf(recordLists()[9], 10)}
	// That a line is no Command comes before that the log is full.
	for _, c := range append(consoles()[:20], full) {
		for _, e := range notRecords() {
			if impl.IsValidRecord(record(e.Command, "")) {
				continue
			}
			if next, reply := impl.ExecuteCommand(c, e.Command); reply != "bad" || next != c {
				t.Errorf("ExecuteCommand(%v, %.60q) = %v, %q", c, e.Command, next, reply)
			}
		}
		for _, line := range []string{"", "\n", "said\n", "\nsaid", "said#", "#said", "said@", "@", "key\t0", "key 0\x7f", "key\x1f0", "key 0\x00", "sai\xff", strings.Repeat(" ", 161), "readings " + strings.Repeat(".", 152)} {
			if next, reply := impl.ExecuteCommand(c, line); reply != "bad" || next != c {
				t.Errorf("ExecuteCommand(%v, %.60q) = %v, %q", c, line, next, reply)
			}
		}
	}
	patterns := commandPatterns()
	for _, line := range []string{"~", " ", "!", "~~ }", strings.Repeat("~", 160), strings.Repeat(" ", 160), "readings " + strings.Repeat(".", 151), "said " + strings.Repeat("a", 155)} {
		checkCommand(t, patterns, consoles()[5], line)
		checkReply(t, impl.Station{Code: "."}, line, "?")
	}
}

func TestFullLogsTakeNoCommands(t *testing.T) {
	patterns := commandPatterns()
	for _, records := range recordLists()[7:] {
		c := impl.Console{Station: impl.Station{Code: ".,-", Said: "a", Count: 3}, Log: logOf(records, 20)}
		if len(records) < impl.MaxRecords {
			c = checkCommand(t, patterns, c, "key 1")
		}
		for _, line := range []string{"said", "key 0", "erase", "opposite", "x", " ", "marks 9"} {
			if next, reply := impl.ExecuteCommand(c, line); reply != "full" || next != c {
				t.Errorf("ExecuteCommand(%.200v, %q) = %.200v, %q", c, line, next, reply)
			}
		}
	}
}

func TestCommandsWithAllArguments(t *testing.T) {
	patterns := commandPatterns()
	words := []string{"", "x", "Key", "SAID", "keys", "ke", "none", "full", "bad", "no", "yes", "?", "quit", "code", "letters", "0", "."}
	for _, form := range commandForms() {
		words = append(words, strings.Fields(form)[0])
	}
	for i, c := range consoles() {
		for k, word := range words {
			for j, arguments := range argumentTexts() {
				// Each third Console takes each line, but all together they take all.
				if line := word + arguments; line != "" && ((i+j+k)%3 == 0 || i == 7) {
					checkCommand(t, patterns, c, line)
				}
			}
		}
	}
}

func TestRepliesThatAreWrittenOut(t *testing.T) {
	three := impl.Station{Code: ".,-,.-", Said: "c a", Count: 17}
	for line, want := range map[string]string{
		"key 1": "c ab", "key 3": "?", "key -1": "?", "word 2": "c a c", "erase": "c", "add --": ".,-,.-,--", "add .-": "?", "add ......": "?", "swap 0 2": ".-,-,.", "swap 1 1": ".,-,.-", "swap 0 3": "?", "opposite": "-,.,-.", "back": ".,-,-.",
		"table": ".,-,.-", "said": "c a", "signal": ".-/.", "time": "13", "bare": ".-.", "marks 2": ".-", "marks 3": "?", "letter .-": "2", "letter .": "0", "letter --": "?", "letter ......": "?", "readings .-.-": "4", "readings -": "1", "shortest .-.-": "cc", "misleads": "yes", "first": ".-", "free": "no", "trace 10": "5", "trace 99": "5", "trace 0": "?", "trace 100": "?", "wrong": "29/100", "guess -": "1", "guess .-": "2", "guess ---": "?", "nodes": "2 3 5", "grown": "yes", "way": "1",
		"key": "?", "key 1 1": "?", "key  1": "?", "key 1 ": "?", " key 1": "?", "key 01": "?", "key .": "?", "erase 0": "?", "erase ": "?", "Erase": "?", "said said": "?", "add": "?", "add 1": "?", "add . .": "?", "swap 0": "?", "swap 0 1 2": "?", "swap 0  1": "?", "swap": "?", "back 0": "?", "opposite 0": "?", "letter": "?", "letter 0": "?", "readings": "?", "readings . .": "?", "time 1": "?", "hello": "?", "trace": "?", "trace 10 10": "?", "trace .": "?",
	} {
		checkReply(t, three, line, want)
	}
	silent := impl.Station{Code: "--.,..."}
	for line, want := range map[string]string{"said": "none", "signal": "none", "bare": "none", "time": "0", "wrong": "0/1", "way": "0", "trace 10": "?", "erase": "?", "word 0": "?", "key 1": "b", "misleads": "no", "first": "?", "free": "yes", "grown": "no", "nodes": "8 14", "readings .": "0", "shortest .": "?", "guess .": "?", "guess ...": "1", "guess -.-": "0"} {
		checkReply(t, silent, line, want)
	}
	alone := impl.Station{Code: "-", Said: "a", Count: 999}
	for line, want := range map[string]string{"erase": "none", "key 0": "aa", "word 0": "a a", "add -": "?", "add .": "-,.", "opposite": ".", "back": "-", "time": "3", "trace 1": "1", "wrong": "1/10", "nodes": "3", "way": "0", "guess .": "0"} {
		checkReply(t, alone, line, want)
	}
	last := impl.Station{Code: "-", Said: "a", Count: 1000}
	for line, want := range map[string]string{"erase": "?", "key 0": "?", "word 0": "?", "add .": "?", "swap 0 0": "?", "opposite": "?", "back": "?", "said": "a", "table": "-"} {
		checkReply(t, last, line, want)
	}
	most := impl.Station{Code: ".....,....-,...-.,...--,..-..,..-.-,..--.,..---,.-...,-----", Said: "jjjjjjjjjjjj"}
	signal := strings.Repeat("----- ", 11) + "-----"
	for line, want := range map[string]string{"said": "jjjjjjjjjjjj", "signal": signal, "bare": strings.Repeat("-", 60), "time": "261", "trace 99": "119", "wrong": "122853/25000", "nodes": "32 33 34 35 36 37 38 39 40 63", "key 0": "?", "word 9": "?", "add .": "?", "erase": "jjjjjjjjjjj", "way": "0", "grown": "no", "first": "?", "swap 0 9": "-----,....-,...-.,...--,..-..,..-.-,..--.,..---,.-...,....."} {
		checkReply(t, most, line, want)
	}
}

func TestNumbersAreToldInFull(t *testing.T) {
	dots := impl.Station{Code: ".,..,...,....,....."}
	counts := []int{1}
	for n := 1; n <= 40; n++ {
		sum := 0
		for _, before := range counts[max(0, n-5):] {
			sum += before
		}
		counts = append(counts, sum)
		checkReply(t, dots, "readings "+strings.Repeat(".", n), strconv.Itoa(sum))
	}
	if counts[40] <= impl.MaxDecimal {
		t.Error(counts)
	}
	checkReply(t, dots, "readings "+strings.Repeat(".", 41), "?")
	checkReply(t, dots, "shortest "+strings.Repeat(".", 40), "eeeeeeee")
}

// someLine returns a command that can often be executed.
func someLine(dice *rand.Rand) string {
	words := strings.Fields(commandForms()[dice.IntN(len(commandForms()))])
	for i, word := range words {
		switch word {
		case "A", "B":
			words[i] = strconv.Itoa(dice.IntN(4))
		case "M":
			words[i] = nodeTexts()[1+dice.IntN(30)]
		}
	}
	return strings.Join(words, " ")
}

// session executes MaxRecords commands, and makes the log durable now and then.
func session(t *testing.T, patterns []*regexp.Regexp, s impl.Station, dice *rand.Rand) impl.Console {
	t.Helper()
	c, ok := impl.NewConsole(s)
	if !ok {
		t.Fatal(s)
	}
	for range impl.MaxRecords {
		c = checkCommand(t, patterns, c, someLine(dice))
		if dice.IntN(10) == 0 {
			c.Log, _ = impl.SyncLog(c.Log)
		}
	}
	return c
}

func checkReplay(t *testing.T, s impl.Station, l impl.Log, want int) {
	t.Helper()
	if at, ok := impl.ReplayLog(s, l); !ok || at != want {
		t.Errorf("ReplayLog(%v, %.200v) = %d, %v, not %d", s, l, at, ok, want)
	}
}

func TestReplayingALogReproducesEveryReply(t *testing.T) {
	patterns := commandPatterns()
	dice := rand.New(rand.NewPCG(12, 2))
	for i, s := range stations() {
		if i%5 != 0 {
			continue
		}
		l := session(t, patterns, s, dice).Log
		checkReplay(t, s, l, impl.MaxRecords)
		records, _ := impl.LogRecords(l)
		for _, place := range []int{0, 1, 17, 58, 59} {
			broken := slices.Clone(records)
			broken[place].Reply += "x"
			checkReplay(t, s, logOf(broken, place), place)
			broken[59].Reply = ""
			checkReplay(t, s, logOf(broken, 0), place)
		}
		// What has come through a crash can be replayed, too.
		for keep := 0; keep <= len(l.Pending); keep += 43 {
			left, _ := impl.CrashLog(l, keep, keep%2 == 0)
			recovered, _, _ := impl.RecoverLog(left)
			checkReplay(t, s, recovered, recovered.Count)
		}
	}
}

func TestLogsWhoseRepliesDiffer(t *testing.T) {
	s := impl.Station{Code: ".,-", Said: "b", Count: 4}
	fine := []impl.LogRecord{record("key 0", "ba"), record("said", "ba"), record("x", "?"), record("opposite", "-,."), record("signal", ". -"), record("erase", "b")}
	for n := range len(fine) + 1 {
		for durable := range n + 1 {
			checkReplay(t, s, logOf(fine[:n], durable), n)
		}
	}
	for place := range fine {
		for _, reply := range []string{"", "none", "bb", "BA", "full", "no", "bad", "ba ", " ba"} {
			broken := slices.Clone(fine)
			broken[place].Reply = reply
			checkReplay(t, s, logOf(broken, 3), place)
		}
		without := slices.Delete(slices.Clone(fine), 0, 1)
		checkReplay(t, s, logOf(without, 1), 0)
	}
	checkReplay(t, impl.Station{Code: ".,-"}, logOf(fine, 0), 0)
	checkReplay(t, impl.Station{Code: ".,-", Said: "b", Count: 998}, logOf(fine, 0), 5)
	checkReplay(t, impl.Station{Code: ".,-", Said: "b", Count: 999}, logOf(fine, 0), 3)
	for _, none := range notStations() {
		for _, l := range []impl.Log{{}, logOf(fine, 2)} {
			if at, ok := impl.ReplayLog(none, l); ok || at != 0 {
				t.Errorf("ReplayLog(%.60q, %d) = %d, %v", []string{none.Code, none.Said}, none.Count, at, ok)
			}
		}
	}
}

// checkScript compares a script with its lines one by one.
func checkScript(t *testing.T, c impl.Console, text string) {
	t.Helper()
	want := []string{}
	next := c
	for _, line := range strings.Split(text, "\n") {
		behind, reply := impl.ExecuteCommand(next, line)
		want = append(want, reply)
		next = behind
	}
	if got, ok := impl.RunScript(c, text); !ok || !slices.Equal(got, want) {
		t.Errorf("RunScript(%v, %.200q) = %q, %v, not %q", c, text, got, ok, want)
	}
}

func TestScriptsAreExecutedLineByLine(t *testing.T) {
	dice := rand.New(rand.NewPCG(12, 3))
	for _, c := range consoles() {
		for n := 1; n <= impl.MaxScriptLines; n += 1 + n/3 {
			lines := []string{}
			for range n {
				lines = append(lines, someLine(dice))
			}
			checkScript(t, c, strings.Join(lines, "\n"))
		}
	}
	c := impl.Console{Station: impl.Station{Code: ".,-"}}
	for text, want := range map[string][]string{
		"": {"bad"}, "\n": {"bad", "bad"}, "said": {"none"}, "said\n": {"none", "bad"}, "\nsaid": {"bad", "none"}, "key 1\nkey 0\n\nsaid\nopposite\nsignal\nx\n#": {"b", "ba", "bad", "ba", "-,.", ". -", "?", "bad"}, "said\r\nsaid": {"bad", "none"}, "key 0;said": {"?"},
	} {
		if got, ok := impl.RunScript(c, text); !ok || !slices.Equal(got, want) {
			t.Errorf("RunScript(%q) = %q, %v, not %q", text, got, ok, want)
		}
	}
	almost := impl.Console{Station: c.Station, Log: logOf(recordLists()[9][:58], 30)}
	if got, ok := impl.RunScript(almost, "key 0\n\nkey 1\nkey 1\n#\nsaid"); !ok || !slices.Equal(got, []string{"a", "bad", "ab", "full", "bad", "full"}) {
		t.Errorf("RunScript of a log that becomes full = %q, %v", got, ok)
	}
}

func TestScriptsThatAreTooLongFail(t *testing.T) {
	c := impl.Console{Station: impl.Station{Code: ".,-"}}
	for lines := range 40 {
		for _, line := range []string{"", "said", "key 1"} {
			text := strings.TrimSuffix(strings.Repeat(line+"\n", lines), "\n")
			if line == "" {
				text = strings.Repeat("\n", max(0, lines-1))
			}
			got, ok := impl.RunScript(c, text)
			if ok != (lines <= 30) || ok && len(got) != max(1, lines) || !ok && len(got) != 0 {
				t.Errorf("%d lines %q: %q, %v", lines, line, got, ok)
			}
		}
	}
	for _, begin := range []string{"", "said\n", strings.Repeat("key 0\n", 29), strings.Repeat("~\n", 29)} {
		for _, bytes := range []int{3998, 3999, 4000, 4001, 4002, 100000} {
			text := begin + strings.Repeat("x", bytes-len(begin))
			got, ok := impl.RunScript(c, text)
			if ok != (bytes <= 4000) || !ok && len(got) != 0 {
				t.Errorf("%d bytes: %q, %v", bytes, got, ok)
			}
			if ok {
				checkScript(t, c, text)
			}
		}
	}
}

func TestStationsAndLogsShareNothing(t *testing.T) {
	marks := []string{".", "-", ".-", "kept"}
	tab := impl.Table{Marks: marks[:3]}
	keys := []impl.Key{{Kind: impl.KeyLetter}, {Kind: impl.KeyBack}, {Kind: 9}, {Kind: impl.KeyErase}}
	for range 2 {
		s, _ := impl.NewStation(tab)
		end, _, _ := impl.DoKeys(s, keys[:3])
		first, _ := impl.TableOfStation(end)
		c, _ := impl.NewConsole(end)
		next, _ := impl.ExecuteCommand(c, "key 2")
		records, _ := impl.LogRecords(next.Log)
		replies, _ := impl.RunScript(next, "said\ntable")
		if c.Log != (impl.Log{}) || c.Station != end || !slices.Equal(first.Marks, []string{".", "-", "-."}) || !slices.Equal(records, []impl.LogRecord{record("key 2", "ac")}) || !slices.Equal(replies, []string{"ac", ".,-,-."}) {
			t.Fatal(c, first, records, replies)
		}
		// What is written into results must not be seen later.
		for i := range first.Marks {
			first.Marks[i] = "x"
		}
		for i := range records {
			records[i] = record("x", "y")
		}
		for i := range replies {
			replies[i] = "z"
		}
		if !slices.Equal(marks, []string{".", "-", ".-", "kept"}) || keys[0] != (impl.Key{Kind: impl.KeyLetter}) || keys[1] != (impl.Key{Kind: impl.KeyBack}) || keys[3] != (impl.Key{Kind: impl.KeyErase}) {
			t.Fatal("arguments are modified", marks, keys)
		}
	}
}
