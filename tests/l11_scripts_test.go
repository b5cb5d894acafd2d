package tests

import (
	"fmt"
	"maps"
	"math/rand"
	"slices"
	"strings"
	"testing"

	"loop.example/g01153/impl"
)

// scopeModel is a scope as a map of waves by their names.
type scopeModel map[string]string

// modelOf returns the model of a scope.
func modelOf(c impl.Scope) scopeModel {
	m := scopeModel{}
	for i, name := range c.Names {
		m[name] = c.Waves[i]
	}
	return m
}

// scope returns the scope of a model.
func (m scopeModel) scope() impl.Scope {
	var c impl.Scope
	for _, name := range slices.Sorted(maps.Keys(m)) {
		c.Names = append(c.Names, name)
		c.Waves = append(c.Waves, m[name])
	}
	return c
}

// hasAll reports whether there are waves with all of these names.
func (m scopeModel) hasAll(names []string) bool {
	for _, name := range names {
		if _, ok := m[name]; !ok {
			return false
		}
	}
	return true
}

// numbersOf reads numbers, and reports whether all words are some.
func numbersOf(words []string) ([]int64, bool) {
	numbers := []int64{0, 0}
	for i, word := range words {
		n, ok := impl.ReadDecimal(word)
		if !ok {
			return nil, false
		}
		numbers[i] = n
	}
	return numbers, true
}

// lineShapes has for each command of which words there are how many: NEW, names of waves, numbers.
var lineShapes = map[string][3]int{
	"show": {0, 1, 0}, "runs": {0, 1, 0}, "ups": {0, 1, 0}, "pulses": {0, 1, 0}, "duty": {0, 1, 0}, "drop": {0, 1, 0}, "not": {1, 1, 0}, "delay": {1, 1, 1}, "repeat": {1, 1, 1},
	"join": {1, 2, 1}, "divide": {1, 1, 2}, "toggle": {1, 1, 1}, "settle": {1, 1, 1}, "stretch": {1, 1, 1}, "switch": {1, 3, 0}, "count": {0, 1, 1},
}

// waveFor returns the wave that a command gives NEW.
func waveFor(command string, w []string, n []int64) (string, bool) {
	switch command {
	case "not":
		return impl.NotWave(w[0])
	case "delay":
		return impl.DelayWave(w[0], n[0])
	case "repeat":
		return impl.RepeatWave(w[0], n[0])
	case "join":
		return impl.JoinWaves(n[0], w[0], w[1])
	case "divide":
		return impl.DivideWave(divider(n[0], n[1]), w[0])
	case "toggle":
		return impl.ToggleWave(n[0], w[0])
	case "settle":
		return impl.Debounce(w[0], n[0])
	case "stretch":
		return impl.StretchPulses(w[0], n[0])
	}
	return impl.SafeSwitch(switchOf(0, 0), w[0], w[1], w[2])
}

// textFor returns the text that a command outputs.
func textFor(command, w string, n []int64) (string, bool) {
	var list []int64
	ok := true
	switch command {
	case "show":
		return strings.Join(append(strings.Fields(w), "none")[:1], ""), true
	case "runs":
		return impl.RunsOf(w)
	case "duty":
		f, ok := impl.DutyOf(w)
		text, _ := impl.FractionText(f)
		return text, ok
	case "ups":
		list, ok = impl.UpsOf(w)
	case "pulses":
		list, ok = impl.PulsesOf(w)
	case "count":
		list, ok = impl.CountWindows(w, n[0])
	}
	text, short := impl.ListText(list)
	return text, ok && short
}

// put gives a name a wave if it can have one, and returns the output.
func (m scopeModel) put(name, w string, ok bool) string {
	if !ok || !impl.IsName(name) || len(m) == impl.MaxNamed && !m.hasAll([]string{name}) {
		return "no"
	}
	m[name] = w
	return "ok"
}

// carryOut does what a line should, and returns its output.
func (m scopeModel) carryOut(line string) string {
	words := strings.Split(line, " ")
	command, rest := words[0], words[1:]
	if command == "set" && len(rest) == 2 {
		return m.put(rest[0], strings.TrimPrefix(rest[1], "none"), rest[1] == "none" || rest[1] != "" && impl.IsWave(rest[1]))
	}
	shape, ok := lineShapes[command]
	if !ok || len(rest) != shape[0]+shape[1]+shape[2] {
		return "what"
	}
	names := rest[shape[0] : shape[0]+shape[1]]
	numbers, ok := numbersOf(rest[shape[0]+shape[1]:])
	if !ok || !m.hasAll(names) {
		return "no"
	}
	var waves []string
	for _, name := range names {
		waves = append(waves, m[name])
	}
	if command == "drop" {
		delete(m, names[0])
		return "ok"
	}
	if shape[0] == 1 {
		w, ok := waveFor(command, waves, numbers)
		return m.put(rest[0], w, ok)
	}
	if text, ok := textFor(command, waves[0], numbers); ok {
		return text
	}
	return "no"
}

// commandWords are the first words of lines, and some that are none.
func commandWords() []string {
	return append(slices.Sorted(maps.Keys(lineShapes)), "set", "", "what", "NEW", "downs")
}

// linesOf yields each line of one of the first words and at most so many of the other words.
func linesOf(first, others []string, most int) func(yield func(string) bool) {
	return func(yield func(string) bool) {
		var extend func(line string, more int) bool
		extend = func(line string, more int) bool {
			if !yield(line) {
				return false
			}
			for _, word := range others {
				if more > 0 && !extend(line+" "+word, more-1) {
					return false
				}
			}
			return true
		}
		for _, word := range first {
			if !extend(word, most) {
				return
			}
		}
	}
}

// checkLine compares what a line does with what it should do.
func checkLine(t *testing.T, c impl.Scope, line string) {
	t.Helper()
	m := modelOf(c)
	output := m.carryOut(line)
	after, got, ok := impl.ScopeCommand(c, line)
	if got != output || !ok || !slices.Equal(after.Names, m.scope().Names) || !slices.Equal(after.Waves, m.scope().Waves) {
		t.Errorf("%q at %s: got %s, want %s", line, inScope(c), ran(after, got, ok), ran(m.scope(), output, true))
	}
}

func TestAllShortLines(t *testing.T) {
	words := []string{"a", "b", "n", "", "none", "0", "1", "2"}
	for line := range linesOf(commandWords(), words, 4) {
		checkLine(t, scopeOf("a", "0101110010", "b", "0111000111"), line)
	}
	for line := range linesOf(commandWords(), []string{"a", "b", "f", "g", "none", "3", "01"}, 3) {
		checkLine(t, scopeOf("a", "0101110010", "b", "", "c", "1", "d", "0", "e", "11", "f", "10"), line)
	}
	for line := range linesOf(commandWords(), []string{"a", "none", "", "1", "6"}, 3) {
		for _, c := range someScopes() {
			checkLine(t, c, line)
		}
	}
}

// anyLine returns a line of words that often fit.
func anyLine(source *rand.Rand) string {
	names := []string{"a", "b", "c", "d", "e", "f", "g", "h"}
	name := func() string { return names[source.Intn(len(names))] }
	number := func() string {
		return fmt.Sprint([]int64{0, 1, 2, 3, 5, 10, 49, 50, 51, 63, 64, 65, -1, 400, 401}[source.Intn(15)])
	}
	if source.Intn(4) == 0 {
		return "set " + name() + " " + anyWave(source, source.Intn(30)+1, 5)
	}
	words := commandWords()
	command := words[source.Intn(len(words))]
	line := command
	for range lineShapes[command][0] + lineShapes[command][1] {
		line += " " + name()
	}
	for range lineShapes[command][2] {
		line += " " + number()
	}
	if source.Intn(30) == 0 {
		line += " " + number()
	}
	return line
}

// anyScript returns a script of lines that often fit.
func anyScript(source *rand.Rand, lines int) string {
	var script strings.Builder
	for range lines {
		script.WriteString(anyLine(source) + "\n")
	}
	return script.String()
}

// scriptRun returns what a script should return, line after line.
func scriptRun(c impl.Scope, script string) string {
	m := modelOf(c)
	var outputs strings.Builder
	for _, line := range strings.Split(script, "\n")[:strings.Count(script, "\n")] {
		outputs.WriteString(m.carryOut(line) + "\n")
	}
	return ran(m.scope(), outputs.String(), true)
}

func TestScripts(t *testing.T) {
	source := rand.New(rand.NewSource(11))
	for n := range 600 {
		script := anyScript(source, n%60)
		for _, c := range someScopes() {
			expect(t, fmt.Sprintf("RunScope of %q at %s", script, inScope(c)), scriptRun(c, script), ran(impl.RunScope(c, script)))
		}
	}
}

func TestScriptsDoWhatTheirLinesDo(t *testing.T) {
	source := rand.New(rand.NewSource(12))
	for n := range 200 {
		script := anyScript(source, n%80)
		c := someScopes()[n%len(someScopes())]
		after, outputs := c, ""
		for line := range strings.Lines(script) {
			next, output, ok := impl.ScopeCommand(after, strings.TrimSuffix(line, "\n"))
			if !ok || !impl.ValidScope(next) {
				t.Fatalf("%q at %s: %v, %s", line, inScope(after), ok, inScope(next))
			}
			after, outputs = next, outputs+output+"\n"
		}
		expect(t, fmt.Sprintf("RunScope of %q", script), ran(after, outputs, true), ran(impl.RunScope(c, script)))
	}
}

func TestScriptsInTwoParts(t *testing.T) {
	source := rand.New(rand.NewSource(13))
	for range 40 {
		script := anyScript(source, 30)
		whole, outputs, _ := impl.RunScope(impl.Scope{}, script)
		for end := range len(script) + 1 {
			middle, first, ok := impl.RunScope(impl.Scope{}, script[:end])
			if end > 0 && script[end-1] != '\n' {
				expect(t, fmt.Sprintf("RunScope of %q", script[:end]), ran(impl.Scope{}, "", false), ran(middle, first, ok))
				continue
			}
			after, second, ok := impl.RunScope(middle, script[end:])
			expect(t, fmt.Sprintf("RunScope of %q in two parts", script), ran(whole, outputs, true), ran(after, first+second, ok))
		}
	}
}

func TestScriptCases(t *testing.T) {
	c := scopeOf("a", "01")
	expect(t, "no lines", ran(c, "", true), ran(impl.RunScope(c, "")))
	expect(t, "no lines at an empty scope", ran(impl.Scope{}, "", true), ran(impl.RunScope(impl.Scope{}, "")))
	expect(t, "an empty line", ran(c, "what\n", true), ran(impl.RunScope(c, "\n")))
	expect(t, "empty lines", ran(c, "what\nwhat\nwhat\n", true), ran(impl.RunScope(c, "\n\n\n")))
	expect(t, "an empty line between others", ran(c, "01\nwhat\n01\n", true), ran(impl.RunScope(c, "show a\n\nshow a\n")))
	expect(t, "an empty line before others", ran(c, "what\n01\n", true), ran(impl.RunScope(c, "\nshow a\n")))
	expect(t, "an empty line behind others", ran(c, "01\nwhat\n", true), ran(impl.RunScope(c, "show a\n\n")))
	expect(t, "a line with another end", ran(c, "no\nwhat\n", true), ran(impl.RunScope(c, "show a\r\nfly\r\n")))
	expect(t, "lines that end in other ways", ran(c, "no\nwhat\n", true), ran(impl.RunScope(c, "show a\rshow\nshow a\v\fshow a\u2028\n")))
	expect(t, "a refused line changes nothing", ran(c, "no\n01\n", true), ran(impl.RunScope(c, "join a a b 0\nshow a\n")))
	expect(t, "a line behind a refused one", ran(scopeOf("a", "10"), "no\nok\n", true), ran(impl.RunScope(c, "divide a a x 1\nnot a a\n")))
	for _, script := range []string{"show a", " ", "\n ", "show a\nshow a", "\nx", "show a\r", "show a\n\x00", "show a\n\r"} {
		expect(t, fmt.Sprintf("%q", script), ran(impl.Scope{}, "", false), ran(impl.RunScope(c, script)))
	}
}

func TestScriptLimits(t *testing.T) {
	c := scopeOf("a", longWaves()[3])
	lines := strings.Repeat("show a\n", impl.MaxScript/7)
	outputs := strings.Repeat(longWaves()[3]+"\n", impl.MaxScript/7)
	for over := range 12 {
		script := lines + strings.Repeat("x", over) + "\n"
		want := ran(c, outputs+"what\n", true)
		if len(script) > impl.MaxScript {
			want = ran(impl.Scope{}, "", false)
		}
		expect(t, fmt.Sprint("RunScope of ", len(script), " bytes"), want, ran(impl.RunScope(c, script)))
	}
	most := strings.Repeat("\n", impl.MaxScript)
	expect(t, "most lines", ran(c, strings.Repeat("what\n", impl.MaxScript), true), ran(impl.RunScope(c, most)))
	expect(t, "one more", ran(impl.Scope{}, "", false), ran(impl.RunScope(c, most+"\n")))
	expect(t, "most bytes without an end", ran(impl.Scope{}, "", false), ran(impl.RunScope(c, strings.Repeat("x", impl.MaxScript))))
	expect(t, "a line of most bytes", ran(c, "what\n", true), ran(impl.RunScope(c, strings.Repeat("x", impl.MaxScript-1)+"\n")))
	expect(t, "far too many bytes", ran(impl.Scope{}, "", false), ran(impl.RunScope(c, strings.Repeat(most, 1000))))
}
