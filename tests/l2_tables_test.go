package tests

import (
	"math"
	"slices"
	"strings"
	"testing"

	"loop.example/g01248/impl"
)

func table(marks ...string) impl.Table { return impl.Table{Marks: marks} }

// tablesForMessages has Tables of one letter, of all lengths of marks, and of MaxTable letters.
func tablesForMessages() []impl.Table {
	return []impl.Table{
		table("."), table("-"), table("....."), table("-----"), table(".-"),
		table(".", "-"), table("-", "."), table(".", ".."), table("..", "."),
		table(".", "-", ".-"), table(".-", "-.", "..", "--"), table("-.-.-", ".-.-.", "-"),
		table(".", "-", "..", ".-", "-.", "--", "...", "..-", ".-.", ".--"),
		table(".....", "....-", "...-.", "...--", "..-..", "..-.-", "..--.", "..---", ".-...", "-----"),
	}
}

// tablesThatAreNone has a Table for each reason not to be one.
func tablesThatAreNone() []impl.Table {
	eleven := table(".", "-", "..", ".-", "-.", "--", "...", "..-", ".-.", ".--", "-..")
	return []impl.Table{
		{}, table(), eleven, {Marks: make([]string, 100000)},
		table(""), table(".", ""), table("", "."), table("......"), table(".", "-.-.-."),
		table(".", "."), table(".-", "-", ".-"), table("-", ".", "..", "-"),
		table("a"), table(".", "-a"), table(" "), table(".", "- "), table(".-/"), table(",", "-"), table(".\x00"), table(".\xff"), table("·"), table("−"), table("–"),
		table(strings.Repeat(".", 100000)),
	}
}

// messagesByHand returns all messages of at most n signs, by the document's rule for spaces.
func messagesByHand(t impl.Table, n int) []string {
	messages := []string{}
	for _, m := range textsOf("abcdefghij"[:len(t.Marks)]+" ", n) {
		if !strings.HasPrefix(m, " ") && !strings.HasSuffix(m, " ") && !strings.Contains(m, "  ") {
			messages = append(messages, m)
		}
	}
	return messages
}

// signalByHand writes the signal of a message sign by sign.
func signalByHand(t impl.Table, m string) string {
	s := ""
	for i := range len(m) {
		if m[i] == ' ' {
			s += "/"
			continue
		}
		if i > 0 && m[i-1] != ' ' {
			s += " "
		}
		s += t.Marks[m[i]-'a']
	}
	return s
}

// timeByHand counts each time and each gap of a message by itself.
func timeByHand(t impl.Table, m string) int {
	time := 0
	for i := range len(m) {
		if m[i] == ' ' {
			time += 7
			continue
		}
		if i > 0 && m[i-1] != ' ' {
			time += 3
		}
		marks := t.Marks[m[i]-'a']
		time += strings.Count(marks, ".") + 3*strings.Count(marks, "-") + len(marks) - 1
	}
	return time
}

// isSignalByHand splits a text into words and letters.
func isSignalByHand(s string) bool {
	if s == "" {
		return true
	}
	words := strings.Split(s, "/")
	signs := len(words) - 1
	for _, word := range words {
		for _, marks := range strings.Split(word, " ") {
			if len(marks) < 1 || len(marks) > 5 || strings.Trim(marks, ".-") != "" {
				return false
			}
			signs++
		}
	}
	return signs <= 12
}

// longMessages has messages of 11 and 12 signs for a Table, with no space and with many.
func longMessages(t impl.Table) []string {
	last := string('a' + byte(len(t.Marks)-1))
	return []string{
		strings.Repeat("a", 12), strings.Repeat(last, 12), "a" + strings.Repeat(" "+last, 5), last + strings.Repeat(" a", 4) + " a" + last,
		strings.Repeat("a", 10) + " " + last, last + " " + strings.Repeat("a", 10), strings.Repeat(last, 11), "aaa aaaa aaa",
	}
}

// notMessages returns texts that are no messages for a Table.
func notMessages(t impl.Table) []string {
	next := string('a' + byte(len(t.Marks)))
	return []string{
		" ", "  ", " a", "a ", "a  a", "a   a", " a a", "a a ", "a\ta", "\n", "A", "aA", "`", "a`", "{", "0", ".", "-", "/", "a/a", "\x00", "a\x00", "\xff", "a\xff", "é", "а", "a\u00a0a",
		next, "a" + next, next + " a", "a z",
		strings.Repeat("a", 13), strings.Repeat("a ", 6) + "a", strings.Repeat("a", 12) + " ", strings.Repeat("a", 11) + "  ", "  " + strings.Repeat("a", 11),
		strings.Repeat("a", 100000), strings.Repeat(" ", 100000),
	}
}

func TestIsTable(t *testing.T) {
	for _, x := range tablesForMessages() {
		if !impl.IsTable(x) {
			t.Errorf("IsTable(%q) is false", x.Marks)
		}
	}
	for _, x := range tablesThatAreNone() {
		if impl.IsTable(x) {
			t.Errorf("IsTable(%.20q..) is true", x.Marks[:min(3, len(x.Marks))])
		}
	}
	texts := textsOf(".-a", 2)
	for _, a := range texts {
		for _, b := range texts {
			fine := a != "" && b != "" && a != b && !strings.Contains(a+b, "a")
			if impl.IsTable(table(a, b)) != fine {
				t.Errorf("IsTable of %q and %q is %v", a, b, !fine)
			}
		}
	}
}

func TestIsMessage(t *testing.T) {
	for _, x := range tablesForMessages() {
		for _, m := range append(messagesByHand(x, 3), longMessages(x)...) {
			if is, ok := impl.IsMessage(x, m); !is || !ok {
				t.Errorf("IsMessage(%q, %q) = %v, %v", x.Marks, m, is, ok)
			}
		}
		for _, m := range notMessages(x) {
			if is, ok := impl.IsMessage(x, m); is || !ok {
				t.Errorf("IsMessage(%q, %.20q) = %v, %v", x.Marks, m, is, ok)
			}
		}
	}
	x := table(".", "-")
	written := messagesByHand(x, 6)
	for _, m := range textsOf("abc ", 6) {
		if is, ok := impl.IsMessage(x, m); !ok || is != slices.Contains(written, m) {
			t.Errorf("IsMessage(%q) = %v, %v", m, is, ok)
		}
	}
	for _, none := range tablesThatAreNone() {
		for _, m := range []string{"", "a", " "} {
			if is, ok := impl.IsMessage(none, m); is || ok {
				t.Errorf("IsMessage of no Table, %q = %v, %v", m, is, ok)
			}
		}
	}
}

func TestIsSignal(t *testing.T) {
	for _, s := range textsOf(".- /x", 6) {
		if got, want := impl.IsSignal(s), isSignalByHand(s); got != want {
			t.Fatalf("IsSignal(%q) = %v", s, got)
		}
	}
	letters := func(n int) string { return strings.TrimSuffix(strings.Repeat("..... ", n), " ") }
	words := func(n int) string { return strings.TrimSuffix(strings.Repeat("-----/", n), "/") }
	for _, s := range []string{"", ".....", "-.-.-", letters(12), words(6), words(6) + " .", letters(11), ". - ./-./- -/. .", letters(10) + "/."} {
		if !impl.IsSignal(s) || !isSignalByHand(s) {
			t.Errorf("IsSignal(%q) is false", s)
		}
	}
	for _, s := range []string{
		" ", "/", "//", " /", "  ", ". ", " .", "./", "/.", ".  .", ".//.", ". /.", "./ .", ". / .", "......", ".......", ". ......", "....../.", "...... .", ". ...... .",
		letters(13), words(7), letters(12) + "/.", letters(11) + "/.", letters(12) + " ", letters(12) + "/", words(6) + " . .", words(6) + "/", letters(100000), strings.Repeat(".", 100000), strings.Repeat("/", 100000),
		"a", ". a", ".,-", ".\n-", ".\x00", "\xff", ". \xff .", "·", ".−", ".\u00a0.", ".\t.", "._",
	} {
		if impl.IsSignal(s) || isSignalByHand(s) {
			t.Errorf("IsSignal(%.40q) is true", s)
		}
	}
}

func TestMarksOfAndLetterOfUndoEachOther(t *testing.T) {
	for _, x := range tablesForMessages() {
		for letter, marks := range x.Marks {
			if got, ok := impl.MarksOf(x, letter); !ok || got != marks {
				t.Errorf("MarksOf(%q, %d) = %q, %v", x.Marks, letter, got, ok)
			}
		}
		for _, letter := range []int{-1, len(x.Marks), len(x.Marks) + 1, math.MinInt, math.MaxInt} {
			if got, ok := impl.MarksOf(x, letter); ok || got != "" {
				t.Errorf("MarksOf(%q, %d) = %q, %v", x.Marks, letter, got, ok)
			}
		}
		for _, marks := range append(textsOf(".-", 6), " ", "a", ",", "\xff", strings.Join(x.Marks, ","), strings.Repeat(".", 100000)) {
			want := slices.Index(x.Marks, marks)
			if got, ok := impl.LetterOf(x, marks); ok != (want >= 0) || got != max(want, 0) {
				t.Errorf("LetterOf(%q, %.20q) = %d, %v", x.Marks, marks, got, ok)
			}
		}
	}
	for _, none := range tablesThatAreNone() {
		for i, marks := range none.Marks[:min(3, len(none.Marks))] {
			if got, ok := impl.MarksOf(none, i); ok || got != "" {
				t.Errorf("MarksOf of no Table, %d = %.20q, %v", i, got, ok)
			}
			if got, ok := impl.LetterOf(none, marks); ok || got != 0 {
				t.Errorf("LetterOf of no Table, %.20q = %d, %v", marks, got, ok)
			}
		}
	}
}

func TestSignalsAreDecodedAsTheyWereEncoded(t *testing.T) {
	for _, x := range tablesForMessages() {
		for _, m := range append(messagesByHand(x, 4), longMessages(x)...) {
			s, ok := impl.EncodeMessage(x, m)
			if !ok || s != signalByHand(x, m) {
				t.Fatalf("EncodeMessage(%q, %q) = %q, %v", x.Marks, m, s, ok)
			}
			if back, ok := impl.DecodeSignal(x, s); !ok || back != m {
				t.Fatalf("DecodeSignal(%q, %q) = %q, %v", x.Marks, s, back, ok)
			}
			if !impl.IsSignal(s) {
				t.Fatalf("IsSignal(%q) is false", s)
			}
		}
	}
	x := table(".", "-", ".-")
	if s, ok := impl.EncodeMessage(x, "ab c"); !ok || s != ". -/.-" {
		t.Errorf("EncodeMessage = %q, %v", s, ok)
	}
	if s, ok := impl.EncodeMessage(x, ""); !ok || s != "" {
		t.Errorf("EncodeMessage of the empty message = %q, %v", s, ok)
	}
	if m, ok := impl.DecodeSignal(x, ""); !ok || m != "" {
		t.Errorf("DecodeSignal of the empty text = %q, %v", m, ok)
	}
}

func TestDecodeSignalAcceptsJustWhatEncodeMessageWrites(t *testing.T) {
	for _, x := range []impl.Table{table("."), table("-"), table(".", "-"), table("-", ".-", ".."), table("...", "-.")} {
		written := map[string]string{}
		for _, m := range messagesByHand(x, 5) {
			written[signalByHand(x, m)] = m
		}
		for _, s := range textsOf(".- /a", 5) {
			want, is := written[s]
			if m, ok := impl.DecodeSignal(x, s); ok != is || m != want {
				t.Fatalf("DecodeSignal(%q, %q) = %q, %v", x.Marks, s, m, ok)
			}
		}
	}
	x := table(".", "-")
	for _, s := range []string{
		" ", "/", ". ", ". -/", ".  -", ".//-", ". /-", "./ -", " .", "/.", "..", ". -.", "./..", "ab", ".\xff", ". \x00",
		strings.Repeat(". ", 12) + ".", strings.Repeat(". ", 11) + "./.", strings.Repeat("./", 6) + ".", strings.Repeat(". ", 100000) + ".",
	} {
		if m, ok := impl.DecodeSignal(x, s); ok || m != "" {
			t.Errorf("DecodeSignal(%.40q) = %q, %v", s, m, ok)
		}
	}
}

func TestTimeOfMarks(t *testing.T) {
	for marks, want := range map[string]int{".": 1, "-": 3, "..": 3, ".-": 5, "-.": 5, "--": 7, "...": 5, ".....": 9, "-----": 19, "-.-.-": 15} {
		if time, ok := impl.TimeOfMarks(marks); !ok || time != want {
			t.Errorf("TimeOfMarks(%q) = %d, %v", marks, time, ok)
		}
	}
	for _, marks := range textsOf(".-", 5)[1:] {
		if time, ok := impl.TimeOfMarks(marks); !ok || time != timeByHand(table(marks), "a") {
			t.Errorf("TimeOfMarks(%q) = %d, %v", marks, time, ok)
		}
	}
	for _, marks := range []string{"", "......", "-.-.-.", " ", "/", ". .", "./.", ".-a", "a", "\xff", "·", ".\x00", strings.Repeat("-", 100000)} {
		if time, ok := impl.TimeOfMarks(marks); ok || time != 0 {
			t.Errorf("TimeOfMarks(%.20q) = %d, %v", marks, time, ok)
		}
	}
}

func TestTimeOfAMessageIsThatOfItsSignal(t *testing.T) {
	for _, x := range tablesForMessages() {
		for _, m := range append(messagesByHand(x, 4), longMessages(x)...) {
			want := timeByHand(x, m)
			if time, ok := impl.TimeOfMessage(x, m); !ok || time != want {
				t.Fatalf("TimeOfMessage(%q, %q) = %d, %v, want %d", x.Marks, m, time, ok, want)
			}
			if time, ok := impl.TimeOfSignal(signalByHand(x, m)); !ok || time != want {
				t.Fatalf("TimeOfSignal of %q = %d, %v, want %d", m, time, ok, want)
			}
		}
	}
	for s, want := range map[string]int{"": 0, ".": 1, ". .": 5, "./.": 9, ". -/.-": 19, "--/-": 17, "-----": 19} {
		if time, ok := impl.TimeOfSignal(s); !ok || time != want {
			t.Errorf("TimeOfSignal(%q) = %d, %v", s, time, ok)
		}
	}
	for _, s := range []string{" ", "/", ". ", "./", ".  .", ".//.", "......", "a", "\xff", strings.Repeat(". ", 12) + ".", strings.Repeat("./", 6) + "."} {
		if time, ok := impl.TimeOfSignal(s); ok || time != 0 {
			t.Errorf("TimeOfSignal(%q) = %d, %v", s, time, ok)
		}
	}
}

func TestCountMarksAndBareOf(t *testing.T) {
	for _, x := range tablesForMessages() {
		for _, m := range append(messagesByHand(x, 4), longMessages(x)...) {
			bare := ""
			for i := range len(m) {
				if m[i] != ' ' {
					bare += x.Marks[m[i]-'a']
				}
			}
			counts := [2]int{strings.Count(bare, "."), strings.Count(bare, "-")}
			if got, ok := impl.BareOf(x, m); !ok || got != bare {
				t.Fatalf("BareOf(%q, %q) = %q, %v", x.Marks, m, got, ok)
			}
			if got, ok := impl.CountMarks(x, m); !ok || got != counts {
				t.Fatalf("CountMarks(%q, %q) = %v, %v", x.Marks, m, got, ok)
			}
		}
	}
	if got, ok := impl.BareOf(table("....."), strings.Repeat("a", 12)); !ok || got != strings.Repeat(".", 60) {
		t.Errorf("BareOf the most marks = %q, %v", got, ok)
	}
	if got, ok := impl.CountMarks(table(".--"), "a aa"); !ok || got != [2]int{3, 6} {
		t.Errorf("CountMarks = %v, %v", got, ok)
	}
}

func TestFunctionsOfMessagesFail(t *testing.T) {
	fails := func(x impl.Table, m string) {
		t.Helper()
		if s, ok := impl.EncodeMessage(x, m); ok || s != "" {
			t.Errorf("EncodeMessage(%.20q) = %q, %v", m, s, ok)
		}
		if time, ok := impl.TimeOfMessage(x, m); ok || time != 0 {
			t.Errorf("TimeOfMessage(%.20q) = %d, %v", m, time, ok)
		}
		if counts, ok := impl.CountMarks(x, m); ok || counts != [2]int{} {
			t.Errorf("CountMarks(%.20q) = %v, %v", m, counts, ok)
		}
		if bare, ok := impl.BareOf(x, m); ok || bare != "" {
			t.Errorf("BareOf(%.20q) = %q, %v", m, bare, ok)
		}
	}
	for _, x := range []impl.Table{table("."), table(".", "-", ".-")} {
		for _, m := range notMessages(x) {
			fails(x, m)
		}
	}
	fails(tablesForMessages()[12], "k")
	for _, none := range tablesThatAreNone() {
		for _, m := range []string{"", "a", "a a"} {
			fails(none, m)
		}
		for _, s := range []string{"", ".", "./."} {
			if m, ok := impl.DecodeSignal(none, s); ok || m != "" {
				t.Errorf("DecodeSignal of no Table, %q = %q, %v", s, m, ok)
			}
		}
	}
}

func TestOppositeAndBackTablesUndoThemselves(t *testing.T) {
	for _, x := range tablesForMessages() {
		opposite, one := impl.OppositeTable(x)
		back, two := impl.BackTable(x)
		if !one || !two || len(opposite.Marks) != len(x.Marks) || len(back.Marks) != len(x.Marks) {
			t.Fatalf("OppositeTable and BackTable of %q = %q, %q", x.Marks, opposite.Marks, back.Marks)
		}
		for i, marks := range x.Marks {
			for j := range len(marks) {
				if opposite.Marks[i][j] == marks[j] || back.Marks[i][len(marks)-1-j] != marks[j] {
					t.Errorf("OppositeTable and BackTable of %q = %q, %q", x.Marks, opposite.Marks, back.Marks)
				}
			}
		}
		if again, ok := impl.OppositeTable(opposite); !ok || !slices.Equal(again.Marks, x.Marks) {
			t.Errorf("OppositeTable(%q) = %q, %v", opposite.Marks, again.Marks, ok)
		}
		if again, ok := impl.BackTable(back); !ok || !slices.Equal(again.Marks, x.Marks) {
			t.Errorf("BackTable(%q) = %q, %v", back.Marks, again.Marks, ok)
		}
		first, one := impl.OppositeTable(back)
		second, two := impl.BackTable(opposite)
		if !one || !two || !slices.Equal(first.Marks, second.Marks) {
			t.Errorf("exchanged: %q and %q", first.Marks, second.Marks)
		}
	}
	if got, ok := impl.OppositeTable(table(".", "-.-", ".---")); !ok || !slices.Equal(got.Marks, []string{"-", ".-.", "-..."}) {
		t.Errorf("OppositeTable = %q, %v", got.Marks, ok)
	}
	if got, ok := impl.BackTable(table(".", "..-", "-.-..")); !ok || !slices.Equal(got.Marks, []string{".", "-..", "..-.-"}) {
		t.Errorf("BackTable = %q, %v", got.Marks, ok)
	}
}

func TestAddLetter(t *testing.T) {
	for _, x := range tablesForMessages() {
		for _, marks := range textsOf(".-", 6) {
			fine := len(x.Marks) < 10 && len(marks) >= 1 && len(marks) <= 5 && !slices.Contains(x.Marks, marks)
			got, ok := impl.AddLetter(x, marks)
			if ok != fine || fine && !slices.Equal(got.Marks, append(slices.Clone(x.Marks), marks)) || !fine && len(got.Marks) != 0 {
				t.Fatalf("AddLetter(%q, %q) = %q, %v", x.Marks, marks, got.Marks, ok)
			}
		}
		for _, marks := range []string{" ", "/", ",", ". .", ".,-", "a", "\xff", ".\x00", "·", strings.Repeat(".", 100000)} {
			if got, ok := impl.AddLetter(x, marks); ok || len(got.Marks) != 0 {
				t.Errorf("AddLetter(%q, %.20q) = %q, %v", x.Marks, marks, got.Marks, ok)
			}
		}
	}
	x := table(".")
	for i, marks := range []string{"-", "..", ".-", "-.", "--", "...", "..-", ".-.", ".--"} {
		more, ok := impl.AddLetter(x, marks)
		if !ok || len(more.Marks) != i+2 {
			t.Fatalf("AddLetter(%q, %q) = %q, %v", x.Marks, marks, more.Marks, ok)
		}
		x = more
	}
	if more, ok := impl.AddLetter(x, "-.."); ok || len(more.Marks) != 0 {
		t.Errorf("an 11th letter: %q, %v", more.Marks, ok)
	}
}

func TestSwapLetters(t *testing.T) {
	for _, x := range tablesForMessages() {
		n := len(x.Marks)
		for i := range n {
			for j := range n {
				got, ok := impl.SwapLetters(x, i, j)
				want := slices.Clone(x.Marks)
				want[i], want[j] = x.Marks[j], x.Marks[i]
				if !ok || !slices.Equal(got.Marks, want) {
					t.Errorf("SwapLetters(%q, %d, %d) = %q, %v", x.Marks, i, j, got.Marks, ok)
				}
			}
		}
		for _, wrong := range []int{-1, n, n + 1, math.MinInt, math.MaxInt} {
			for _, places := range [][2]int{{wrong, 0}, {0, wrong}, {wrong, wrong}} {
				if got, ok := impl.SwapLetters(x, places[0], places[1]); ok || len(got.Marks) != 0 {
					t.Errorf("SwapLetters(%q, %v) = %q, %v", x.Marks, places, got.Marks, ok)
				}
			}
		}
	}
}

func TestTableTextAndParseTableUndoEachOther(t *testing.T) {
	for _, x := range tablesForMessages() {
		s, ok := impl.TableText(x)
		if !ok || s != strings.Join(x.Marks, ",") {
			t.Errorf("TableText(%q) = %q, %v", x.Marks, s, ok)
		}
		if back, ok := impl.ParseTable(s); !ok || !slices.Equal(back.Marks, x.Marks) {
			t.Errorf("ParseTable(%q) = %q, %v", s, back.Marks, ok)
		}
	}
	for _, s := range textsOf(".-, ", 6) {
		x := table(strings.Split(s, ",")...)
		got, ok := impl.ParseTable(s)
		if ok != impl.IsTable(x) || ok && !slices.Equal(got.Marks, x.Marks) || !ok && len(got.Marks) != 0 {
			t.Fatalf("ParseTable(%q) = %q, %v", s, got.Marks, ok)
		}
		if text, fine := impl.TableText(got); ok && (!fine || text != s) {
			t.Fatalf("ParseTable(%q) = %q: TableText %q, %v", s, got.Marks, text, fine)
		}
	}
	for _, s := range []string{
		"", ",", ".,", ",.", ".,,-", ".,.", "-,.,-", "......", ".,------", ". ,-", ". -", ".;-", ".,-\n", ".,-#", "a", ".,a", "\xff", ".,\xff", "·", ".,-,",
		".,-,..,.-,-.,--,...,..-,.-.,.--,-..", strings.Repeat(".,", 100000), strings.Repeat(".", 100000), strings.Repeat(",", 4000), strings.Repeat(",", 4001),
	} {
		if got, ok := impl.ParseTable(s); ok || len(got.Marks) != 0 {
			t.Errorf("ParseTable(%.40q) = %q, %v", s, got.Marks, ok)
		}
	}
}

func TestFunctionsOfTablesFail(t *testing.T) {
	for _, none := range tablesThatAreNone() {
		if got, ok := impl.OppositeTable(none); ok || len(got.Marks) != 0 {
			t.Errorf("OppositeTable of no Table = %.20q, %v", got.Marks, ok)
		}
		if got, ok := impl.BackTable(none); ok || len(got.Marks) != 0 {
			t.Errorf("BackTable of no Table = %.20q, %v", got.Marks, ok)
		}
		if got, ok := impl.AddLetter(none, "-.-.-"); ok || len(got.Marks) != 0 {
			t.Errorf("AddLetter to no Table = %.20q, %v", got.Marks, ok)
		}
		if got, ok := impl.SwapLetters(none, 0, 0); ok || len(got.Marks) != 0 {
			t.Errorf("SwapLetters of no Table = %.20q, %v", got.Marks, ok)
		}
		if got, ok := impl.TableText(none); ok || got != "" {
			t.Errorf("TableText of no Table = %.20q, %v", got, ok)
		}
	}
}

func TestFunctionsOfTablesKeepNothingOfArguments(t *testing.T) {
	memory := []string{".", "-", ".-", "kept", "kept"}
	x := impl.Table{Marks: memory[:3]}
	results := map[string]impl.Table{}
	results["OppositeTable"], _ = impl.OppositeTable(x)
	results["BackTable"], _ = impl.BackTable(x)
	results["AddLetter"], _ = impl.AddLetter(x, "..")
	results["SwapLetters"], _ = impl.SwapLetters(x, 0, 2)
	results["same letter"], _ = impl.SwapLetters(x, 1, 1)
	impl.IsTable(x)
	impl.IsMessage(x, "ab c")
	impl.EncodeMessage(x, "ab c")
	impl.DecodeSignal(x, ". -/.-")
	impl.TableText(x)
	for name, result := range results {
		if len(result.Marks) < 3 {
			t.Errorf("%s = %q", name, result.Marks)
		}
		for i := range result.Marks {
			result.Marks[i] = name
		}
	}
	if !slices.Equal(memory, []string{".", "-", ".-", "kept", "kept"}) {
		t.Errorf("an argument has changed: %q", memory)
	}
	first, _ := impl.AddLetter(x, "..")
	second, _ := impl.AddLetter(x, "--")
	if first.Marks[3] != ".." || second.Marks[3] != "--" {
		t.Errorf("results of AddLetter share memory: %q, %q", first.Marks, second.Marks)
	}
}
