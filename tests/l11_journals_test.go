package tests

import (
	"fmt"
	"math/rand"
	"slices"
	"strings"
	"testing"

	"loop.example/g01153/impl"
)

// entriesOf returns what a journal should have for each of some lines.
func entriesOf(lines []string) []string {
	var entries []string
	check := int64(0)
	for _, line := range lines {
		check = checkOf(check, line)
		entries = append(entries, fmt.Sprintf("%d %s\n", check, line))
	}
	return entries
}

// journalOf returns what JournalOf should.
func journalOf(lines []string) string {
	journal := strings.Join(entriesOf(lines), "")
	if len(journal) > impl.MaxScript || slices.ContainsFunc(lines, func(line string) bool { return strings.Contains(line, "\n") }) {
		return quoted("", false)
	}
	return quoted(journal, true)
}

// quoted writes a text and whether it is there.
func quoted(text string, ok bool) string {
	return fmt.Sprintf("%q %v", text, ok)
}

// recovered joins the results of RecoverJournal.
func recovered(lines []string, length int64, ok bool) string {
	return fmt.Sprintf("%q %d %v", lines, length, ok)
}

// recoveredOf returns what RecoverJournal should: of each number of lines, those that a text could have in its journal are tried.
func recoveredOf(text string) string {
	parts := strings.SplitAfter(text, "\n")
	best, length := []string{}, int64(0)
	var lines []string
	for _, part := range parts {
		number, line, ok := strings.Cut(part, " ")
		line, whole := strings.CutSuffix(line, "\n")
		if !ok || !whole || number == "" {
			break
		}
		lines = append(lines, line)
		if journal, ok := impl.JournalOf(lines); ok && strings.HasPrefix(text, journal) {
			best, length = slices.Clone(lines), int64(len(journal))
		}
	}
	return recovered(best, length, true)
}

// someLines are lists of lines.
func someLines() [][]string {
	return [][]string{
		nil,
		{},
		{""},
		{"", "", ""},
		{"a"},
		{"a", ""},
		{"a", "a", "a"},
		{" "},
		{" a", "a ", "a  b"},
		{"110 a"},
		{"set a 0101010101", "divide b a 3 1", "show b", "duty b"},
		{"\x00", "\r", "\xff\xfe", "é", "\t", "\u2028"},
		{"0", "00", "-1", "13 "},
		{strings.Repeat("x", 1000), strings.Repeat(" ", 1000), strings.Repeat("\xff", 1000)},
	}
}

func TestJournals(t *testing.T) {
	for _, lines := range someLines() {
		expect(t, fmt.Sprintf("JournalOf %q", lines), journalOf(lines), quoted(impl.JournalOf(lines)))
	}
	expect(t, "the example of the stage", quoted("110 a\n110 \n", true), quoted(impl.JournalOf([]string{"a", ""})))
	expect(t, "empty lines", quoted("0 \n0 \n", true), quoted(impl.JournalOf([]string{"", ""})))
	for _, first := range []string{"", "a", "b", "aa", " ", "\n", "a\n", "\na"} {
		for _, next := range []string{"", "a", "ab", "0 ", "\n", "\n\n", "a\nb"} {
			for _, last := range []string{"", "b", "\n", "b\n"} {
				lines := []string{first, next, last}
				expect(t, fmt.Sprintf("JournalOf %q", lines), journalOf(lines), quoted(impl.JournalOf(lines)))
			}
		}
	}
}

func TestJournalsOfLinesWithNewlines(t *testing.T) {
	for _, no := range []string{"\n", "a\n", "\na", "a\nb", "\n\n", "\r\n", strings.Repeat("a", 100) + "\n"} {
		for _, lines := range [][]string{{no}, {"a", no}, {no, "a"}, {"a", no, "b"}} {
			expect(t, fmt.Sprintf("JournalOf %q", lines), quoted("", false), quoted(impl.JournalOf(lines)))
		}
	}
}

// linesFor returns lines behind some others, the last of them of one letter, whose journal has so many bytes.
func linesFor(first []string, size int) []string {
	left := size - len(strings.Join(entriesOf(first), ""))
	for _, letter := range []string{"x", "y", "z", "a", "b"} {
		// A check number has 1 to 5 digits.
		for length := left - len("64900 \n"); length <= left-len("0 \n"); length++ {
			lines := append(slices.Clone(first), strings.Repeat(letter, length))
			if len(strings.Join(entriesOf(lines), "")) == size {
				return lines
			}
		}
	}
	return nil
}

func TestJournalLimits(t *testing.T) {
	for _, first := range [][]string{nil, {""}, {"set a 01"}, {strings.Repeat("y", 2000)}, listOf("", 1300), listOf("show a", 200)} {
		for size := impl.MaxScript - 5; size <= impl.MaxScript+5; size++ {
			lines := linesFor(first, size)
			if lines == nil {
				t.Errorf("no lines behind %d others with %d bytes", len(first), size)
				continue
			}
			what := fmt.Sprint(" behind ", len(first), " lines with ", size, " bytes")
			journal := strings.Join(entriesOf(lines), "")
			if size > impl.MaxScript {
				expect(t, "JournalOf"+what, quoted("", false), quoted(impl.JournalOf(lines)))
				expect(t, "RecoverJournal"+what, recovered(nil, 0, false), recovered(impl.RecoverJournal(journal)))
				continue
			}
			expect(t, "JournalOf"+what, quoted(journal, true), quoted(impl.JournalOf(lines)))
			expect(t, "RecoverJournal"+what, recovered(lines, int64(size), true), recovered(impl.RecoverJournal(journal)))
		}
	}
	expect(t, "most lines", quoted(strings.Repeat("0 \n", 1333), true), quoted(impl.JournalOf(listOf("", 1333))))
	expect(t, "one more", quoted("", false), quoted(impl.JournalOf(listOf("", 1334))))
	expect(t, "far too many", quoted("", false), quoted(impl.JournalOf(listOf("", 1000000))))
	expect(t, "far too long", quoted("", false), quoted(impl.JournalOf([]string{strings.Repeat("x", 10000000)})))
	expect(t, "a last one that is too long", quoted("", false), quoted(impl.JournalOf([]string{"a", strings.Repeat("x", impl.MaxScript)})))
	for over := range 3 {
		text := strings.Repeat("0 \n", 1333) + strings.Repeat("0", over)
		want := recovered(listOf("", 1333), 3999, true)
		if over == 2 {
			want = recovered(nil, 0, false)
		}
		expect(t, fmt.Sprint("RecoverJournal of ", len(text), " bytes"), want, recovered(impl.RecoverJournal(text)))
	}
	expect(t, "far too many bytes", recovered(nil, 0, false), recovered(impl.RecoverJournal(strings.Repeat("0 \n", 100000))))
	expect(t, "most bytes that are no journal", recovered(nil, 0, true), recovered(impl.RecoverJournal(strings.Repeat("x", impl.MaxScript))))
}

func TestJournalsAreRecovered(t *testing.T) {
	for _, lines := range someLines() {
		journal := strings.Join(entriesOf(lines), "")
		expect(t, fmt.Sprintf("RecoverJournal %q", journal), recovered(lines, int64(len(journal)), true), recovered(impl.RecoverJournal(journal)))
	}
}

// A journal that was not written to its end has the lines that are whole.
func TestCutJournals(t *testing.T) {
	for _, lines := range someLines() {
		entries := entriesOf(lines)
		journal := strings.Join(entries, "")
		whole, length := 0, 0
		for end := range len(journal) + 1 {
			if whole < len(entries) && end == length+len(entries[whole]) {
				length = end
				whole++
			}
			expect(t, fmt.Sprintf("RecoverJournal %q", journal[:end]), recovered(lines[:whole], int64(length), true), recovered(impl.RecoverJournal(journal[:end])))
		}
	}
}

// A journal of which a byte is another one has the lines before it, if no other lines happen to have the same check numbers.
func TestDamagedJournals(t *testing.T) {
	for _, lines := range someLines()[:13] {
		entries := entriesOf(lines)
		journal := strings.Join(entries, "")
		whole, length := 0, 0
		for place := range len(journal) {
			if place == length+len(entries[whole]) {
				length = place
				whole++
			}
			for _, other := range []byte{journal[place] ^ 1, journal[place] + 1, ' ', '\n', '0', '1', 'x', 0, 0xff} {
				damaged := journal[:place] + string([]byte{other}) + journal[place+1:]
				if damaged == journal {
					continue
				}
				expect(t, fmt.Sprintf("RecoverJournal %q", damaged), recoveredOf(damaged), recovered(impl.RecoverJournal(damaged)))
				expect(t, fmt.Sprintf("RecoverJournal %q", damaged), recovered(lines[:whole], int64(length), true), recovered(impl.RecoverJournal(damaged)))
			}
		}
	}
}

func TestAllShortTextsAreRecovered(t *testing.T) {
	for text := range allTexts("01 \n", 8) {
		expect(t, fmt.Sprintf("RecoverJournal %q", text), recoveredOf(text), recovered(impl.RecoverJournal(text)))
	}
	for text := range allTexts("a10 \n", 6) {
		expect(t, fmt.Sprintf("RecoverJournal %q", "110 a\n"+text), recoveredOf("110 a\n"+text), recovered(impl.RecoverJournal("110 a\n"+text)))
	}
}

func TestRecoverCases(t *testing.T) {
	for text, want := range map[string]string{
		"":                       recovered(nil, 0, true),
		"\n":                     recovered(nil, 0, true),
		" \n":                    recovered(nil, 0, true),
		" a\n":                   recovered(nil, 0, true),
		"0\n":                    recovered(nil, 0, true),
		"0 ":                     recovered(nil, 0, true),
		"0 \n":                   recovered([]string{""}, 3, true),
		"00 \n":                  recovered(nil, 0, true),
		"-0 \n":                  recovered(nil, 0, true),
		"0  \n":                  recovered(nil, 0, true),
		"45  \n":                 recovered([]string{" "}, 5, true),
		"64901 \n":               recovered(nil, 0, true),
		"110 a":                  recovered(nil, 0, true),
		"110 a\n":                recovered([]string{"a"}, 6, true),
		"109 a\n":                recovered(nil, 0, true),
		"0110 a\n":               recovered(nil, 0, true),
		"+110 a\n":               recovered(nil, 0, true),
		" 110 a\n":               recovered(nil, 0, true),
		"110  a\n":               recovered(nil, 0, true),
		"110\ta\n":               recovered(nil, 0, true),
		"110 a\r\n":              recovered(nil, 0, true),
		"110 a \n":               recovered(nil, 0, true),
		"65011 a\n":              recovered(nil, 0, true),
		"110 a\n\n":              recovered([]string{"a"}, 6, true),
		"110 a\n110 a\n":         recovered([]string{"a"}, 6, true),
		"110 a\n110 \nxx":        recovered([]string{"a", ""}, 11, true),
		"110 a\n33880 a\n":       recovered([]string{"a", "a"}, 14, true),
		"110 a\n33880 a\n110 a":  recovered([]string{"a", "a"}, 14, true),
		"110 a\n0 \n33880 a\n":   recovered([]string{"a"}, 6, true),
		"x110 a\n":               recovered(nil, 0, true),
		"\n110 a\n":              recovered(nil, 0, true),
		"110 a\n109 \n110 \n":    recovered([]string{"a"}, 6, true),
		"33880 a\n110 a\n":       recovered(nil, 0, true),
		"0 \n110 a\n":            recovered([]string{"", "a"}, 9, true),
		"110 a\n110 \n33880 a\n": recovered([]string{"a", "", "a"}, 19, true),
	} {
		expect(t, fmt.Sprintf("RecoverJournal %q", text), want, recovered(impl.RecoverJournal(text)))
		expect(t, fmt.Sprintf("the model of RecoverJournal %q", text), want, recoveredOf(text))
	}
}

func TestJournalsOfAnyLines(t *testing.T) {
	source := rand.New(rand.NewSource(14))
	for n := range 300 {
		var lines []string
		for range source.Intn(40) {
			line := make([]byte, source.Intn(n/4+1))
			for i := range line {
				line[i] = byte(source.Intn(256))
			}
			lines = append(lines, strings.ReplaceAll(string(line), "\n", " "))
		}
		want := journalOf(lines)
		journal, ok := impl.JournalOf(lines)
		expect(t, fmt.Sprintf("JournalOf %q", lines), want, quoted(journal, ok))
		if ok {
			expect(t, fmt.Sprintf("RecoverJournal %q", journal), recovered(lines, int64(len(journal)), true), recovered(impl.RecoverJournal(journal)))
			more := journal + "1 "
			if len(more) <= impl.MaxScript {
				expect(t, fmt.Sprintf("RecoverJournal %q", more), recovered(lines, int64(len(journal)), true), recovered(impl.RecoverJournal(more)))
			}
		}
	}
}

// A script that is kept in a journal does the same when its lines are recovered.
func TestScriptsAreRecovered(t *testing.T) {
	source := rand.New(rand.NewSource(15))
	for range 100 {
		script := anyScript(source, 40)
		lines := strings.Split(strings.TrimSuffix(script, "\n"), "\n")
		journal, ok := impl.JournalOf(lines)
		kept, _, again := impl.RecoverJournal(journal)
		if !ok || !again {
			t.Fatalf("no journal of %q", lines)
		}
		expect(t, fmt.Sprintf("the recovered script %q", script), ran(impl.RunScope(impl.Scope{}, script)), ran(impl.RunScope(impl.Scope{}, strings.Join(kept, "\n")+"\n")))
	}
}
