package tests

import (
	"fmt"
	"strings"
	"testing"

	"loop.example/g01153/impl"
)

// plainScope is the scope at which the rows below carry out their lines.
func plainScope() impl.Scope {
	return scopeOf("a", "0101010101", "b", "0111000111", "c", "0001111111", "e", "", "l", longWaves()[2])
}

// commandRow is a line with its output, and the pairs of names and waves that are set behind it.
type commandRow struct {
	line, output string
	set          []string
}

// checkCommands carries out the line of each row at the plain scope.
func checkCommands(t *testing.T, rows []commandRow) {
	t.Helper()
	for _, row := range rows {
		waves := map[string]string{}
		for i, name := range plainScope().Names {
			waves[name] = plainScope().Waves[i]
		}
		for i := 0; i < len(row.set); i += 2 {
			waves[row.set[i]] = row.set[i+1]
		}
		var pairs []string
		for _, name := range []string{"a", "ab", "abcdefghij", "b", "c", "e", "l", "n", "none", "set", "z"} {
			if w, ok := waves[name]; ok {
				pairs = append(pairs, name, w)
			}
		}
		want := ran(scopeOf(pairs...), row.output, true)
		expect(t, row.line, want, ran(impl.ScopeCommand(plainScope(), row.line)))
		// With a newline in it, it would be two lines of a script.
		if !strings.Contains(row.line, "\n") {
			expect(t, row.line+" as a script", ran(scopeOf(pairs...), row.output+"\n", true), ran(impl.RunScope(plainScope(), row.line+"\n")))
		}
	}
}

func TestCommands(t *testing.T) {
	checkCommands(t, []commandRow{
		{"set n 0110", "ok", []string{"n", "0110"}},
		{"set a 0110", "ok", []string{"a", "0110"}},
		{"set n none", "ok", []string{"n", ""}},
		{"set a none", "ok", []string{"a", ""}},
		{"set none none", "ok", []string{"none", ""}},
		{"set set 1", "ok", []string{"set", "1"}},
		{"set z 1", "ok", []string{"z", "1"}},
		{"set ab 1", "ok", []string{"ab", "1"}},
		{"set abcdefghij 0", "ok", []string{"abcdefghij", "0"}},
		{"set n " + longWaves()[5], "ok", []string{"n", longWaves()[5]}},
		{"show a", "0101010101", nil},
		{"show e", "none", nil},
		{"show l", longWaves()[2], nil},
		{"runs b", "0x1 1x3 0x3 1x3", nil},
		{"runs e", "none", nil},
		{"ups a", "1,3,5,7,9", nil},
		{"ups e", "none", nil},
		{"pulses b", "3,3", nil},
		{"pulses e", "none", nil},
		{"duty b", "3/5", nil},
		{"duty l", "1/2", nil},
		{"not n a", "ok", []string{"n", "1010101010"}},
		{"not a a", "ok", []string{"a", "1010101010"}},
		{"not e b", "ok", []string{"e", "1000111000"}},
		{"not n e", "ok", []string{"n", ""}},
		{"delay n b 3", "ok", []string{"n", "0000111000"}},
		{"delay b b 0", "ok", nil},
		{"delay b b 400", "ok", []string{"b", "0000000000"}},
		{"repeat n b 2", "ok", []string{"n", "01110001110111000111"}},
		{"repeat n b 0", "ok", []string{"n", ""}},
		{"repeat b b 40", "ok", []string{"b", strings.Repeat("0111000111", 40)}},
		{"repeat e e 400", "ok", nil},
		{"join n a b 0", "ok", []string{"n", "0101000101"}},
		{"join n a b 1", "ok", []string{"n", "0111010111"}},
		{"join n a b 2", "ok", []string{"n", "0010010010"}},
		{"join n a b 3", "ok", []string{"n", "0000010000"}},
		{"join n b a 3", "ok", []string{"n", "0010000010"}},
		{"join a a a 2", "ok", []string{"a", "0000000000"}},
		{"divide n a 3 1", "ok", []string{"n", "0110000110"}},
		{"divide n a 2 1", "ok", []string{"n", "0110011001"}},
		{"divide a a 1 1", "ok", []string{"a", "0111111111"}},
		{"divide n a 64 0", "ok", []string{"n", "0000000000"}},
		{"divide n a 64 64", "ok", []string{"n", "0111111111"}},
		{"toggle n a 3", "ok", []string{"n", "0111000111"}},
		{"toggle n a 1", "ok", []string{"n", "0101010101"}},
		{"toggle a a 64", "ok", []string{"a", "0111111111"}},
		{"settle n b 2", "ok", []string{"n", "0011100011"}},
		{"settle b b 50", "ok", []string{"b", "0000000000"}},
		{"stretch n b 2", "ok", []string{"n", "0111100111"}},
		{"stretch b b 50", "ok", []string{"b", "0111111111"}},
		{"switch n a b c", "ok", []string{"n", "0101000111"}},
		{"switch n b a c", "ok", []string{"n", "0111010101"}},
		{"switch a a a a", "ok", []string{"a", switchedBy(impl.Switch{}, [2]string{"0101010101", "0101010101"}, "0101010101").output([2]string{"0101010101", "0101010101"})}},
		{"count a 5", "2,3", nil},
		{"count a 50", "none", nil},
		{"count e 1", "none", nil},
		{"count l 50", "25,25,25,25,25,25,25,25", nil},
	})
}

func TestDrop(t *testing.T) {
	left := []string{"a", "0101010101", "b", "0111000111", "c", "0001111111", "e", "", "l", longWaves()[2]}
	for i := 0; i < len(left); i += 2 {
		var others []string
		others = append(append(others, left[:i]...), left[i+2:]...)
		expect(t, "drop "+left[i], ran(scopeOf(others...), "ok", true), ran(impl.ScopeCommand(plainScope(), "drop "+left[i])))
	}
	expect(t, "drop the only one", ran(impl.Scope{}, "ok", true), ran(impl.ScopeCommand(scopeOf("a", "01"), "drop a")))
}

func TestCommandsThatAreRefused(t *testing.T) {
	var rows []commandRow
	refused := func(lines ...string) {
		for _, line := range lines {
			rows = append(rows, commandRow{line: line, output: "no"})
		}
	}
	// There is no wave with one of the names.
	for _, no := range []string{"n", "", "A", "ab", "none", "0", "0101010101", "a\n", "\na", "aa", "é", "a,b", "a\t"} {
		refused("drop "+no, "show "+no, "runs "+no, "ups "+no, "pulses "+no, "duty "+no, "count "+no+" 2", "not n "+no, "not a "+no)
		for _, command := range []string{"delay", "repeat", "toggle", "settle", "stretch"} {
			refused(command+" n "+no+" 2", command+" a "+no+" 2")
		}
		refused("divide n "+no+" 2 1", "join n "+no+" b 1", "join n a "+no+" 1", "join n "+no+" "+no+" 1")
		refused("switch n "+no+" b c", "switch n a "+no+" c", "switch n a b "+no, "switch a "+no+" b c")
	}
	// NEW is no name.
	for _, no := range []string{"", "N", "n1", "1", "01", "abcdefghijk", "é", "n\n", "\nn", "n,", "\x00", "-"} {
		refused("set "+no+" 01", "set "+no+" none", "not "+no+" a", "join "+no+" a b 1", "divide "+no+" a 2 1", "switch "+no+" a b c")
		for _, command := range []string{"delay", "repeat", "toggle", "settle", "stretch"} {
			refused(command + " " + no + " a 2")
		}
	}
	// A word is no number where one must be.
	for _, no := range []string{"", "a", "x", "+1", "01", "1.0", "1\n", "-0", "--1", "1e1", "0x1", "１", "1000000000000001", "9223372036854775808", "none", "2/1", "1,2"} {
		for _, command := range []string{"delay", "repeat", "toggle", "settle", "stretch"} {
			refused(command+" n a "+no, command+" a a "+no)
		}
		refused("count a "+no, "join n a b "+no, "divide n a "+no+" 1", "divide n a 2 "+no, "divide n a "+no+" "+no)
	}
	checkCommands(t, rows)
}

func TestSetRefusesWhatIsNoWave(t *testing.T) {
	var rows []commandRow
	for _, no := range append([]string{"", "None", "nonE", "ok", "a", "none\n", "0,1"}, noWaves()...) {
		if no == "none" || strings.Contains(no, " ") {
			continue
		}
		rows = append(rows, commandRow{line: "set n " + no, output: "no"}, commandRow{line: "set a " + no, output: "no"})
	}
	checkCommands(t, rows)
}

func TestFunctionsThatFail(t *testing.T) {
	var rows []commandRow
	for _, line := range []string{
		"delay n a -1", "delay n a 401", "delay a a 1000000000000000", "delay n e -1", "delay n a -1000000000000000",
		"repeat n a -1", "repeat n a 41", "repeat n l 2", "repeat e e 401", "repeat a a 1000000000000000",
		"join n a b -1", "join n a b 4", "join n a e 0", "join n e a 0", "join n a l 1", "join n e b 3",
		"divide n a 0 0", "divide n a 65 1", "divide n a 3 4", "divide n a 3 -1", "divide n a -1 -1", "divide n a 64 65", "divide n a 1 3",
		"toggle n a 0", "toggle n a 65", "toggle n a -1", "toggle n e 0",
		"settle n a 0", "settle n a 51", "settle n a -1", "settle n e 51",
		"stretch n a 0", "stretch n a 51", "stretch n a -1", "stretch a e 0",
		"switch n a b e", "switch n a e c", "switch n e b c", "switch n a b l", "switch n l l a",
		"count a 0", "count a 51", "count a -1", "count e 0",
		"ups l", "pulses l", "count l 1", "count l 6", "duty e",
	} {
		rows = append(rows, commandRow{line: line, output: "no"})
	}
	checkCommands(t, rows)
}

func TestTextsOfLongLists(t *testing.T) {
	for _, count := range []int{impl.MaxItems - 1, impl.MaxItems, impl.MaxItems + 1} {
		c := scopeOf("a", strings.Repeat("01", count), "b", strings.Repeat("0", 6*count))
		var ups []string
		for i := range count {
			ups = append(ups, fmt.Sprint(2*i+1))
		}
		wants := []string{strings.Join(ups, ","), strings.Join(listOf("1", count), ","), strings.Join(listOf("0", count), ",")}
		for i, line := range []string{"ups a", "pulses a", "count b 6"} {
			want := wants[i]
			if count > impl.MaxItems {
				want = "no"
			}
			expect(t, fmt.Sprint(line, " with ", count, " numbers"), ran(c, want, true), ran(impl.ScopeCommand(c, line)))
		}
	}
}

func TestNoMoreThanMaxNamed(t *testing.T) {
	lines := []string{"set NEW 01", "not NEW a", "delay NEW a 1", "repeat NEW a 2", "join NEW a b 1", "divide NEW a 2 1", "toggle NEW a 2", "settle NEW a 1", "stretch NEW a 1", "switch NEW a b b"}
	var pairs []string
	for n := range impl.MaxNamed {
		c := scopeOf(pairs...)
		for _, line := range lines {
			if n < 2 && line != "set NEW 01" {
				continue
			}
			for _, name := range []string{"a", "m", "z"} {
				after, output, ok := impl.ScopeCommand(c, strings.Replace(line, "NEW", name, 1))
				expect(t, fmt.Sprint(line, " for ", name, " at ", n, " waves"), "ok true true", output, ok, impl.ValidScope(after))
			}
		}
		pairs = append(pairs, string(rune('a'+n)), strings.Repeat("01", 3))
	}
	full := scopeOf(pairs...)
	for _, line := range lines {
		for _, name := range []string{"aa", "g", "z"} {
			expect(t, line+" for "+name+" at a full scope", ran(full, "no", true), ran(impl.ScopeCommand(full, strings.Replace(line, "NEW", name, 1))))
		}
		for _, name := range []string{"a", "f"} {
			after, output, ok := impl.ScopeCommand(full, strings.Replace(line, "NEW", name, 1))
			expect(t, line+" for "+name+" at a full scope", "ok true [a b c d e f]", output, ok, after.Names)
		}
	}
	expect(t, "a dropped one makes room", "ok\nno\nok\nok\nno\n true", call(second(impl.RunScope(full, "not a a\nset x 0\ndrop b\nset x 0\nset y 0\n"))))
}

// second leaves out the scope of the results of a script.
func second(_ impl.Scope, output string, ok bool) (string, bool) {
	return output, ok
}

func TestUnknownLines(t *testing.T) {
	rows := []commandRow{}
	unknown := func(lines ...string) {
		for _, line := range lines {
			rows = append(rows, commandRow{line: line, output: "what"})
		}
	}
	unknown("", " ", "  ", "fly", "what", "ok", "no", "none", "a", "01", "é", "\xff", "\x00", "#", "help", "NEW", "OLD a", "SHOW a", "Show a", "shows a", "sho a", "downs a", "period a", "gaps a", "old a", "setx n 01")
	for _, line := range []string{"set n 01", "drop a", "show a", "runs a", "ups a", "pulses a", "duty a", "not n a", "delay n a 1", "repeat n a 1", "join n a b 1", "divide n a 2 1", "toggle n a 1", "settle n a 1", "stretch n a 1", "switch n a b c", "count a 5"} {
		words := strings.Split(line, " ")
		for fewer := 1; fewer < len(words); fewer++ {
			unknown(strings.Join(words[:fewer], " "))
		}
		unknown(" "+line, line+" ", line+" a", line+" 1", line+" none", line+"  ", strings.Replace(line, " ", "  ", 1), strings.ReplaceAll(line, " ", "\t"), strings.ToUpper(line))
		unknown("\t"+line, "x"+line, strings.Replace(line, " ", "\t", 1), "  "+line, line+strings.Repeat(" ", 1000))
	}
	unknown("drop", "show", "set", "set ", "set n", "count", "count a", "not n", "not ", "join n a 1", "switch n a b", "divide n a 2", "delay n 1", "delay n a", "toggle n 2")
	checkCommands(t, rows)
}

func TestWordsCanBeEmpty(t *testing.T) {
	checkCommands(t, []commandRow{
		{"drop ", "no", nil}, {"show ", "no", nil}, {"runs ", "no", nil}, {"ups ", "no", nil}, {"pulses ", "no", nil}, {"duty ", "no", nil},
		{"set n ", "no", nil}, {"set  01", "no", nil}, {"set  ", "no", nil}, {"not  a", "no", nil}, {"not n ", "no", nil}, {"not  ", "no", nil},
		{"delay n a ", "no", nil}, {"delay n  1", "no", nil}, {"delay  a 1", "no", nil}, {"delay   ", "no", nil},
		{"divide n a 2 ", "no", nil}, {"divide n a  1", "no", nil}, {"divide    ", "no", nil}, {"join    ", "no", nil}, {"switch    ", "no", nil},
		{"count a ", "no", nil}, {"count  5", "no", nil}, {"count  ", "no", nil},
	})
}

// Bytes that end no line of a script can be in a line that is carried out alone.
func TestLinesAlone(t *testing.T) {
	for line, output := range map[string]string{"fly\n": "what", "\n": "what", "show a\n": "no", "show\na": "what", "set n 01\n": "no", "show a\r": "no", "set n 01\nset m 10": "what", "show a\nshow b": "what"} {
		expect(t, fmt.Sprintf("%q", line), ran(plainScope(), output, true), ran(impl.ScopeCommand(plainScope(), line)))
	}
	long := strings.Repeat("0", impl.MaxScript)
	expect(t, "a line that is longer than a script", ran(plainScope(), "no", true), ran(impl.ScopeCommand(plainScope(), "set n "+long)))
	expect(t, "one that is longer and unknown", ran(plainScope(), "what", true), ran(impl.ScopeCommand(plainScope(), long)))
}

func TestConsoleExample(t *testing.T) {
	after, output, ok := impl.ScopeCommand(impl.Scope{}, "set a 0101010101")
	expect(t, "set", ran(scopeOf("a", "0101010101"), "ok", true), ran(after, output, ok))
	after, output, ok = impl.ScopeCommand(after, "divide b a 3 1")
	divided := scopeOf("a", "0101010101", "b", "0110000110")
	expect(t, "divide", ran(divided, "ok", true), ran(after, output, ok))
	expect(t, "show", ran(divided, "0110000110", true), ran(impl.ScopeCommand(after, "show b")))
	expect(t, "duty", ran(divided, "2/5", true), ran(impl.ScopeCommand(after, "duty b")))
	expect(t, "the script", ran(divided, "ok\nok\n0110000110\n2/5\n", true), ran(impl.RunScope(impl.Scope{}, "set a 0101010101\ndivide b a 3 1\nshow b\nduty b\n")))
}
