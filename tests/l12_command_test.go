package tests

import (
	"fmt"
	"math"
	"math/big"
	"slices"
	"strconv"
	"strings"
	"testing"

	"loop.example/g00255/impl"
)

func command(kind, a, b, c int64) impl.Command {
	return impl.Command{Kind: kind, A: a, B: b, C: c}
}

// wording is how Commands of a Kind are told: a word, and these fields.
type wording struct {
	kind int64
	word string
	told []fieldOf[impl.Command]
}

func ofA(c *impl.Command) *int64 { return &c.A }
func ofB(c *impl.Command) *int64 { return &c.B }
func ofC(c *impl.Command) *int64 { return &c.C }

func wordings() []wording {
	type fields = []fieldOf[impl.Command]
	id, of := fieldOf[impl.Command]{"Id", 1, 1000000, ofA}, fieldOf[impl.Command]{"Node", 0, 7, ofA}
	return []wording{
		{1, "submit", fields{{"Cores", 1, 1000, ofA}, {"Long", 1, 10000, ofB}, {"Rank", 0, 9, ofC}}},
		{2, "cancel", fields{id}},
		{3, "tick", fields{{"time", 0, never, ofA}}},
		{4, "drain", fields{of}},
		{5, "up", fields{of}},
		{6, "down", fields{of}},
		{7, "done", fields{id, {"epoch", 1, 1000000, ofB}}},
	}
}

// untold are the fields that w does not tell.
func untold(w wording) []func(*impl.Command) *int64 {
	return []func(*impl.Command) *int64{ofA, ofB, ofC}[len(w.told):]
}

// between are numbers of f: its least, its greatest and some between.
func between(f fieldOf[impl.Command]) []int64 {
	list := []int64{f.least, f.least + 1, 2, 5, 9, 10, 99, 100, f.most/2 + 1, f.most - 1, f.most}
	list = slices.DeleteFunc(list, func(n int64) bool { return n < f.least || n > f.most })
	slices.Sort(list)
	return slices.Compact(list)
}

// rightCommands are of each Kind, with each number at its ends and between.
func rightCommands() []impl.Command {
	out := []impl.Command{}
	for _, w := range wordings() {
		these := []impl.Command{{Kind: w.kind}}
		for _, f := range w.told {
			more := []impl.Command{}
			for _, c := range these {
				for _, n := range between(f) {
					more = append(more, with(c, f, n))
				}
			}
			these = more
		}
		out = append(out, these...)
	}
	return out
}

// oneOfEach are Commands of each Kind, with short texts and the longest.
func oneOfEach() []impl.Command {
	return []impl.Command{
		command(1, 3, 5, 1), command(1, 1, 1, 0), command(1, 1000, 10000, 9),
		command(2, 1, 0, 0), command(2, 70, 0, 0), command(2, 1000000, 0, 0),
		command(3, 0, 0, 0), command(3, 9, 0, 0), command(3, 999999999, 0, 0), command(3, never, 0, 0),
		command(4, 0, 0, 0), command(4, 7, 0, 0), command(5, 0, 0, 0), command(5, 6, 0, 0), command(6, 1, 0, 0), command(6, 7, 0, 0),
		command(7, 4, 2, 0), command(7, 10, 100, 0), command(7, 1000000, 1000000, 0),
	}
}

// wrongCommands are right ones that are wrong in one field.
func wrongCommands() []impl.Command {
	out := []impl.Command{{}}
	for _, right := range oneOfEach() {
		w := wordings()[right.Kind-1]
		out = append(out, spoilt(right, w.told)...)
		for _, of := range untold(w) {
			for _, n := range []int64{1, -1, 2, 5, never, math.MinInt64, math.MaxInt64, 1 << 32} {
				out = append(out, with(right, fieldOf[impl.Command]{of: of}, n))
			}
		}
		for _, kind := range []int64{0, 8, -1, 9, -7, right.Kind + 8, -right.Kind, 1<<32 + right.Kind, 1<<8 + right.Kind, math.MinInt64, math.MinInt64 + right.Kind, math.MaxInt64} {
			out = append(out, command(kind, right.A, right.B, right.C))
		}
	}
	return out
}

// countShown is the text, by the document's words; and whether there is one.
func countShown(c impl.Command) (string, bool) {
	for _, w := range wordings() {
		if w.kind != c.Kind {
			continue
		}
		text := w.word
		for _, f := range w.told {
			if *f.of(&c) < f.least || *f.of(&c) > f.most {
				return "", false
			}
			text = fmt.Sprintf("%s %d", text, *f.of(&c))
		}
		for _, of := range untold(w) {
			if *of(&c) != 0 {
				return "", false
			}
		}
		return text, true
	}
	return "", false
}

// countRead looks for the word, and reads what is behind each blank alone.
func countRead(s string) (impl.Command, bool) {
	words := strings.Split(s, " ")
	for _, w := range wordings() {
		if w.word != words[0] || len(words) != len(w.told)+1 {
			continue
		}
		c := impl.Command{Kind: w.kind}
		for i, f := range w.told {
			n, err := strconv.ParseInt(words[i+1], 10, 64)
			if err != nil || n < f.least || n > f.most || strconv.FormatInt(n, 10) != words[i+1] {
				return impl.Command{}, false
			}
			c = with(c, f, n)
		}
		return c, true
	}
	return impl.Command{}, false
}

func looksShown(t *testing.T, c impl.Command) {
	t.Helper()
	want, is := countShown(c)
	if got := impl.CommandOk(c); got != is {
		t.Fatalf("CommandOk(%v) is %v", c, got)
	}
	if got := impl.ShowCommand(c); got != want {
		t.Fatalf("ShowCommand(%v) = %q, not %q", c, got, want)
	}
	if back, read := impl.ReadCommand(want); is && (!read || back != c) {
		t.Fatalf("ReadCommand(%q) = %v, %v, not %v", want, back, read, c)
	}
}

// looksRead tells whether s was read.
func looksRead(t *testing.T, s string) bool {
	t.Helper()
	want, is := countRead(s)
	got, read := impl.ReadCommand(s)
	if got != want || read != is {
		t.Fatalf("ReadCommand(%.99q) = %v, %v, not %v, %v", s, got, read, want, is)
	}
	if text := impl.ShowCommand(got); read && text != s {
		t.Fatalf("%q is read, but ShowCommand(%v) = %q", s, got, text)
	}
	return read
}

func looksUnread(t *testing.T, s string) {
	t.Helper()
	if c, is := impl.ReadCommand(s); is || c != (impl.Command{}) {
		t.Errorf("ReadCommand(%.99q) = %v, %v", s, c, is)
	}
}

func TestKindsOfCommands(t *testing.T) {
	got := []int64{impl.CmSubmit, impl.CmCancel, impl.CmTick, impl.CmDrain, impl.CmUp, impl.CmDown, impl.CmDone}
	if !slices.Equal(got, []int64{1, 2, 3, 4, 5, 6, 7}) {
		t.Fatal(got)
	}
}

func TestCommandTable(t *testing.T) {
	for _, c := range []struct {
		text string
		want impl.Command
	}{
		{"submit 3 5 1", command(1, 3, 5, 1)}, {"submit 1 1 0", command(1, 1, 1, 0)},
		{"submit 1000 10000 9", command(1, 1000, 10000, 9)}, {"submit 20 300 4", command(1, 20, 300, 4)},
		{"cancel 1", command(2, 1, 0, 0)}, {"cancel 1000000", command(2, 1000000, 0, 0)}, {"cancel 105", command(2, 105, 0, 0)},
		{"tick 0", command(3, 0, 0, 0)}, {"tick 1", command(3, 1, 0, 0)},
		{"tick 999999999", command(3, 999999999, 0, 0)}, {"tick 1000000000", command(3, 1000000000, 0, 0)},
		{"drain 0", command(4, 0, 0, 0)}, {"drain 7", command(4, 7, 0, 0)},
		{"up 0", command(5, 0, 0, 0)}, {"up 7", command(5, 7, 0, 0)},
		{"down 0", command(6, 0, 0, 0)}, {"down 7", command(6, 7, 0, 0)}, {"down 3", command(6, 3, 0, 0)},
		{"done 4 2", command(7, 4, 2, 0)}, {"done 1 1", command(7, 1, 1, 0)}, {"done 1000000 1000000", command(7, 1000000, 1000000, 0)},
	} {
		if got := impl.ShowCommand(c.want); got != c.text || !impl.CommandOk(c.want) {
			t.Errorf("ShowCommand(%v) = %q, not %q", c.want, got, c.text)
		}
		if got, is := impl.ReadCommand(c.text); !is || got != c.want {
			t.Errorf("ReadCommand(%q) = %v, %v, not %v", c.text, got, is, c.want)
		}
	}
}

func TestReadCommandOfShowCommandIsTheCommand(t *testing.T) {
	list := rightCommands()
	if len(list) < 600 {
		t.Fatalf("there are but %d Commands", len(list))
	}
	texts := map[string]impl.Command{}
	for _, c := range list {
		text := impl.ShowCommand(c)
		if other, is := texts[text]; is || text == "" || !impl.CommandOk(c) {
			t.Fatalf("%q is the text of %v and of %v", text, c, other)
		}
		texts[text] = c
		if got, is := impl.ReadCommand(text); !is || got != c {
			t.Fatalf("ReadCommand(%q) = %v, %v, not %v", text, got, is, c)
		}
		looksShown(t, c)
	}
}

func TestEverySmallCommandIsReadAgain(t *testing.T) {
	d := dice(307)
	for n := int64(0); n <= 1000; n++ {
		for kind := int64(1); kind <= 7; kind++ {
			looksShown(t, command(kind, n, 0, 0))
		}
		looksShown(t, command(1, n, 1+d.below(10000), d.below(10)))
		looksShown(t, command(1, 1+d.below(1000), 10*n+d.below(10), n%12))
		looksShown(t, command(2, 1000*n, 0, 0))
		looksShown(t, command(3, 1000000*n+d.below(1000), 0, 0))
		looksShown(t, command(7, 1+d.below(1000000), n, 0))
		looksShown(t, command(7, n, 1+d.below(1000000), 0))
	}
}

func TestWrongCommandsHaveNoText(t *testing.T) {
	for _, c := range wrongCommands() {
		if impl.CommandOk(c) || impl.ShowCommand(c) != "" {
			t.Errorf("of %v: CommandOk is %v, ShowCommand %q", c, impl.CommandOk(c), impl.ShowCommand(c))
		}
	}
}

// A wrong Command's text, were it written all the same, is none.
func TestTextsOfWrongCommandsAreUnread(t *testing.T) {
	for _, c := range wrongCommands() {
		if c.Kind < 1 || c.Kind > 7 {
			continue
		}
		w := wordings()[c.Kind-1]
		told := w.word
		for _, f := range w.told {
			told = fmt.Sprint(told, " ", *f.of(&c))
		}
		if _, is := countRead(told); !is {
			looksUnread(t, told)
		}
		looksUnread(t, fmt.Sprint(w.word, " ", c.A, " ", c.B, " ", c.C))
		looksUnread(t, fmt.Sprint(w.word, " ", c.A, " ", c.B, " ", c.C, " 0"))
	}
}

func TestCommandsAnswerAtEveryArgument(t *testing.T) {
	numbers := []int64{math.MinInt64, -never, -1, 0, 1, 7, 8, 9, 10, 1000, 1001, 10000, 10001, 1000000, 1000001, never - 1, never, never + 1, 1<<32 + 1, math.MaxInt64}
	for _, kind := range []int64{math.MinInt64, math.MinInt64 + 1, -7, -1, 0, 1, 2, 3, 4, 5, 6, 7, 8, 9, 257, 1<<32 + 1, math.MaxInt64} {
		for _, a := range numbers {
			for _, b := range numbers {
				for _, c := range numbers {
					looksShown(t, command(kind, a, b, c))
				}
			}
		}
	}
}

// spoiltNumbers are texts that are not n's.
func spoiltNumbers(n string) []string {
	return []string{"", " " + n, n + " ", "\t" + n, n + "\t", n + "\n", "\n" + n, n + "\r", "\v" + n, "\x00" + n, n + "\x00",
		"+" + n, "-" + n, "--" + n, n + "-", n + "+", "- " + n, "0" + n, "00" + n, "0000000000" + n, n + "a", "a" + n, n + "e0", n + ".", n + ".0", n + ",", n + "_", "0x" + n, "0b" + n, "0o" + n,
		"-", "+", "a", "x", "never", "-0", "+0", "00", "05", "0x1", "1e3", "1_0", "1 000", "½", "٣", "３", "\xc2\xa0" + n, n + "\xc2\xa0", "\xff", "\x80", "\"" + n + "\"",
		n + n + n + n + n + n + n + n + n + n + n, "9999999999", "10000000000", "10000000001", "99999999999", strings.Repeat("9", 30), "1" + strings.Repeat("0", 29), strings.Repeat("0", 30), strings.Repeat("0", 29) + n}
}

func TestSpoiltNumbersAreUnread(t *testing.T) {
	for _, right := range oneOfEach() {
		text := impl.ShowCommand(right)
		words := strings.Split(text, " ")
		for i := 1; i < len(words); i++ {
			for _, wrong := range spoiltNumbers(words[i]) {
				own := slices.Clone(words)
				own[i] = wrong
				looksUnread(t, strings.Join(own, " "))
			}
		}
		if !looksRead(t, text) {
			t.Errorf("%q is unread", text)
		}
	}
}

func TestSpoiltWordsAreUnread(t *testing.T) {
	for _, w := range wordings() {
		numbers := ""
		for _, f := range w.told {
			numbers += fmt.Sprint(" ", f.most)
		}
		if !looksRead(t, w.word+numbers) {
			t.Errorf("%q is unread", w.word+numbers)
		}
		for _, wrong := range []string{"", " ", "\t", " " + w.word, "\n" + w.word, w.word + "\t", w.word + "\n", w.word + ":", w.word + "\x00", "\x00" + w.word,
			strings.ToUpper(w.word), strings.ToUpper(w.word[:1]) + w.word[1:], w.word[:1] + strings.ToUpper(w.word[1:]), w.word + "s", w.word + w.word, w.word + " " + w.word, w.word[1:], w.word[:len(w.word)-1], w.word[:1],
			"stop", "call", "term", "submitted", "xyzzy", fmt.Sprint(w.kind), "0", "-", "\xff", w.word + "\xff", "\xef\xbb\xbf" + w.word, "ｕｐ", "tick-", strings.Repeat(w.word, 1000)} {
			looksUnread(t, wrong+numbers)
			looksUnread(t, wrong)
		}
	}
}

func TestTooManyOrTooFewWordsAreUnread(t *testing.T) {
	for _, right := range oneOfEach() {
		text := impl.ShowCommand(right)
		words := strings.Split(text, " ")
		for n := range words {
			looksUnread(t, strings.Join(words[:n], " "))
			looksUnread(t, strings.Join(words[:n], " ")+" ")
			looksUnread(t, strings.Join(words[n:], " ")[1:])
		}
		for _, more := range []string{" ", "  ", " 0", " 1", " 0 0", " 0 0 0", " 0 0 0 0", " 1 1", "\n", "\t", "\r\n", "\x00", " \n", "\n\n", " " + text, "\n" + text, text, " -", " a", strings.Repeat(" 0", 100)} {
			looksUnread(t, text+more)
		}
		for _, ahead := range []string{" ", "  ", "\n", "\t", "\x00", "0 ", "1 ", "up ", "tick ", "\xff"} {
			looksUnread(t, ahead+text)
		}
		for _, between := range []string{"  ", "   ", "\t", "\n", "\r", "\x00", "\v", "\f", "\xa0", "\xc2\xa0", "_", "+", "", " \t", "\t ", ", ", ",", " + ", "/", ":", " 0 ", " - "} {
			looksUnread(t, strings.ReplaceAll(text, " ", between))
			looksUnread(t, strings.Replace(text, " ", between, 1))
		}
	}
}

func TestReadsNothingOfTheseTexts(t *testing.T) {
	for _, s := range []string{"", " ", "  ", "\n", "\x00", "0", "1", "5 5", "-1", "submit", "tick", "up", "up ", "tick  ", "tick -0", "tick +5", "tick 00", "tick 05", "tick 1000000001", "tick 9999999999", "tick 10000000000",
		"tick 2000000000", "tick 4294967296", "tick 4294967301", "tick never", "cancel 0", "cancel 1000001", "cancel 1000000000", "cancel -5", "drain 8", "up 8", "down 8", "drain 10", "up -1", "up 00",
		"submit 3 05 1", "submit 0 5 1", "submit 1001 5 1", "submit 3 0 1", "submit 3 10001 1", "submit 3 5 10", "submit 3 5 -1", "submit 3 5", "submit 3 5 1 0", "submit 1000000000 1 0", "submit 1 1000000000 0", "submit 1 1 1000000000",
		"done 4", "done 4 0", "done 0 2", "done 4 2 0", "done 1000001 1", "done 1 1000001", "done 4 1000000000", "Submit 3 5 1", "submit3 5 1", "up7", "up 7up 7", "up 7 up 7"} {
		looksUnread(t, s)
	}
}

// Numbers that wrap round to a right one are none.
func TestNumbersThatWrapRoundAreUnread(t *testing.T) {
	for _, right := range oneOfEach() {
		words := strings.Split(impl.ShowCommand(right), " ")
		for i := 1; i < len(words); i++ {
			n, _ := new(big.Int).SetString(words[i], 10)
			for _, bits := range []uint{8, 16, 31, 32, 33, 53, 62, 63, 64, 65, 66, 96, 128, 256} {
				for times := int64(1); times <= 10; times++ {
					far := new(big.Int).Lsh(big.NewInt(times), bits)
					own := slices.Clone(words)
					own[i] = far.Add(far, n).String()
					looksRead(t, strings.Join(own, " "))
				}
			}
		}
	}
}

func TestNumbersOfEachLength(t *testing.T) {
	for _, w := range wordings() {
		for i := range w.told {
			for digits := 1; digits <= 30; digits++ {
				for _, begin := range []string{"0", "1", "2", "7", "8", "9"} {
					for _, rest := range []string{"0", "1", "9"} {
						words := []string{w.word}
						for _, f := range w.told {
							words = append(words, fmt.Sprint(f.least))
						}
						words[i+1] = begin + strings.Repeat(rest, digits-1)
						looksRead(t, strings.Join(words, " "))
					}
				}
			}
		}
	}
}

// oneByteOther goes through all texts that s becomes by one byte.
func oneByteOther(s string, see func(string)) {
	for i := range len(s) + 1 {
		for b := range 256 {
			see(s[:i] + string([]byte{byte(b)}) + s[i:])
			if i < len(s) {
				see(s[:i] + string([]byte{byte(b)}) + s[i+1:])
			}
		}
		if i < len(s) {
			see(s[:i] + s[i+1:])
		}
	}
}

func TestTextsWithOneByteChangedLeftOutOrPutIn(t *testing.T) {
	read, unread := 0, 0
	for _, right := range oneOfEach() {
		oneByteOther(impl.ShowCommand(right), func(s string) {
			if looksRead(t, s) {
				read++
			} else {
				unread++
			}
		})
	}
	if read < 500 || unread < 100*read {
		t.Fatalf("%d are read, %d are not", read, unread)
	}
}

// everyText goes through all texts of at most so many of these bytes.
func everyText(ahead string, bytes string, most int, see func(string)) {
	see(ahead)
	for i := 0; most > 0 && i < len(bytes); i++ {
		everyText(ahead+bytes[i:i+1], bytes, most-1, see)
	}
}

func TestEveryTextOfFewBytes(t *testing.T) {
	for _, c := range []struct {
		ahead, bytes string
		most, want   int
	}{
		{"", "up 078", 6, 2}, {"u", "p 1-\n", 6, 1}, {"tick", " 0135", 6, 1 + 3*(1+4+16+64+256)}, {"tick 1000", "0 1", 8, 63 + 1},
		{"submit", " 19-", 7, 8 + 16 + 16}, {"submit 1 1 ", "0 -19", 5, 3}, {"submit 1 ", "01 9", 6, 3 * 2 * (1 + 3 + 9 + 27)},
		{"cancel ", "0 15", 6, 2 * (1 + 3 + 9 + 27 + 81 + 243)}, {"done ", "1 9", 5, 4 + 2*8 + 3*16}, {"d", "own 1", 6, 1}, {"drain ", "0123456789 ", 4, 8},
	} {
		read := 0
		everyText(c.ahead, c.bytes, c.most, func(s string) {
			if looksRead(t, s) {
				read++
			}
		})
		if read != c.want {
			t.Errorf("of %q and at most %d of %q %d are read, not %d", c.ahead, c.most, c.bytes, read, c.want)
		}
	}
}

func TestThrownTexts(t *testing.T) {
	d := dice(311)
	words := []string{"submit", "cancel", "tick", "drain", "up", "down", "done", "0", "1", "2", "7", "9", "10", "1000", "10000", "1000000", "1000000000", "1000000001", "-1", "05", "", "Up", "\x00", "\xff"}
	bytes := "updoneticksubmitcanceldrainw 0123456789-+\x00\xff\n"
	read := 0
	for range 60000 {
		list := []string{words[d.below(7)]}
		for range d.below(5) {
			list = append(list, words[7+d.below(d.below(int64(len(words))-7)+1)])
		}
		if looksRead(t, strings.Join(list, " ")) {
			read++
		}
		any, of := make([]byte, d.below(20)), make([]byte, d.below(12))
		for i := range any {
			any[i] = byte(d.below(256))
		}
		for i := range of {
			of[i] = bytes[d.below(int64(len(bytes)))]
		}
		looksRead(t, string(any))
		looksRead(t, string(of))
	}
	if read < 5000 {
		t.Fatalf("but %d are read", read)
	}
}

func TestLongTextsAreUnread(t *testing.T) {
	for _, of := range []string{" ", "0", "1", "9", "a", "\x00", "\xff", "\n", "up ", "up 1 ", " 0", " 1", "1 ", "tick 5\n", "-"} {
		long := strings.Repeat(of, 300000)
		for _, s := range []string{long, "up" + long, "up " + long, "up 1" + long, "up 1 " + long, long + "up 1", "submit 3 5 " + long, "submit 3 5 1" + long, "tick " + long, "tick 1000000000" + long} {
			looksUnread(t, s)
		}
	}
}

func TestCommandsArgumentsStay(t *testing.T) {
	for _, c := range append(rightCommands(), wrongCommands()...) {
		own := c
		text := impl.ShowCommand(own)
		bytes := strings.Clone(text)
		read, is := impl.ReadCommand(text)
		if impl.CommandOk(own) != is || own != c || text != bytes {
			t.Fatalf("of %v is left %v, of %q %q", c, own, bytes, text)
		}
		impl.ReadCommand("done 77 88")
		if again, still := impl.ReadCommand(text); again != read || still != is || impl.ShowCommand(own) != text {
			t.Fatalf("%q is read as %v, then as %v", text, read, again)
		}
	}
}
