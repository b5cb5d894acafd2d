package tests

import (
	"fmt"
	"strings"
	"testing"

	"loop.example/g01153/impl"
)

// scopeOf returns the scope with these names and waves, a wave behind its name.
func scopeOf(pairs ...string) impl.Scope {
	var c impl.Scope
	for i := 0; i < len(pairs); i += 2 {
		c.Names = append(c.Names, pairs[i])
		c.Waves = append(c.Waves, pairs[i+1])
	}
	return c
}

// fullScope returns a scope with as many waves as there can be; more than a letter keeps names apart that begin alike.
func fullScope() impl.Scope {
	return scopeOf("a", "0101010101", "aa", "", "b", "0111000111", "c", "1", "clockclock", longWaves()[2], "z", longWaves()[5])
}

// someScopes are valid scopes.
func someScopes() []impl.Scope {
	return []impl.Scope{
		{},
		{Names: []string{}, Waves: []string{}},
		scopeOf("a", ""),
		scopeOf("a", "01"),
		scopeOf("b", "0111000111"),
		scopeOf("a", "0101010101", "b", "0111000111"),
		scopeOf("abcdefghij", "1", "abcdefghik", "0"),
		scopeOf("a", "0", "b", "1", "c", "00", "d", "11", "e", "01"),
		scopeOf("none", "01", "ok", "10", "set", "0"),
		fullScope(),
	}
}

// noScopes are scopes that are not valid.
func noScopes() []impl.Scope {
	list := []impl.Scope{
		{Names: []string{"a"}},
		{Waves: []string{"01"}},
		{Names: []string{"a"}, Waves: []string{"01", "10"}},
		{Names: []string{"a", "b"}, Waves: []string{"01"}},
		scopeOf("b", "01", "a", "01"),
		scopeOf("a", "01", "a", "01"),
		scopeOf("aa", "01", "a", "01"),
		scopeOf("a", "", "c", "", "b", ""),
		scopeOf("", "01"),
		scopeOf("", "01", "a", "01"),
		scopeOf("A", "01"),
		scopeOf("a", "01", "b1", "10"),
		scopeOf("a", "01", "é", "10"),
		scopeOf("a b", "01"),
		scopeOf("a\n", "01"),
		scopeOf("abcdefghijk", "01"),
		scopeOf("a", "0", "b", "0", "c", "0", "d", "0", "e", "0", "f", "0", "g", "0"),
		{Names: []string{"a", "b", "c", "d", "e", "f", "g"}, Waves: fullScope().Waves},
		{Names: fullScope().Names, Waves: []string{"", "", "", "", "", "", ""}},
	}
	for _, w := range noWaves() {
		list = append(list, scopeOf("a", w), scopeOf("a", "01", "b", w), scopeOf("a", w, "b", "01"))
	}
	return list
}

// inScope writes a scope.
func inScope(c impl.Scope) string {
	return fmt.Sprintf("%q", c)
}

// ran joins what a line or a script returns.
func ran(c impl.Scope, output string, ok bool) string {
	return fmt.Sprintf("%q %q %v", c, output, ok)
}

func TestConsoleLimits(t *testing.T) {
	expect(t, "limits of chapter 11", "6 4000", impl.MaxNamed, impl.MaxScript)
}

func TestValidScope(t *testing.T) {
	for _, c := range someScopes() {
		expect(t, "ValidScope "+inScope(c), "true", impl.ValidScope(c))
	}
	for _, c := range noScopes() {
		expect(t, "ValidScope "+inScope(c), "false", impl.ValidScope(c))
	}
}

func TestValidScopeOfSmallScopes(t *testing.T) {
	names := []string{"", "a", "ab", "b", "B"}
	waves := []string{"", "01", "2"}
	isValid := func(c impl.Scope) bool {
		for i, name := range c.Names {
			if name == "" || name == "B" || c.Waves[i] == "2" || i > 0 && name <= c.Names[i-1] {
				return false
			}
		}
		return true
	}
	var check func(c impl.Scope)
	check = func(c impl.Scope) {
		expect(t, "ValidScope "+inScope(c), fmt.Sprint(isValid(c)), impl.ValidScope(c))
		if len(c.Names) == 3 {
			return
		}
		for _, name := range names {
			for _, w := range waves {
				check(impl.Scope{Names: append(c.Names[:len(c.Names):len(c.Names)], name), Waves: append(c.Waves[:len(c.Waves):len(c.Waves)], w)})
			}
		}
	}
	check(impl.Scope{})
}

func TestScopeLimits(t *testing.T) {
	var c impl.Scope
	for n := range impl.MaxNamed + 2 {
		expect(t, fmt.Sprint("ValidScope of ", n, " waves"), fmt.Sprint(n <= impl.MaxNamed), impl.ValidScope(c))
		c.Names = append(c.Names, string(rune('a'+n)))
		c.Waves = append(c.Waves, "01")
	}
	expect(t, "the longest name", "true", impl.ValidScope(scopeOf(strings.Repeat("z", 10), "01")))
	expect(t, "one that is too long", "false", impl.ValidScope(scopeOf(strings.Repeat("z", 11), "01")))
	expect(t, "the longest wave", "true", impl.ValidScope(scopeOf("a", strings.Repeat("1", impl.MaxTicks))))
	expect(t, "one that is too long", "false", impl.ValidScope(scopeOf("a", strings.Repeat("1", impl.MaxTicks+1))))
}

func TestNoScopes(t *testing.T) {
	fails := ran(impl.Scope{}, "", false)
	for _, c := range noScopes() {
		for _, line := range []string{"", "set a 01", "show a", "drop a", "fly"} {
			expect(t, "ScopeCommand "+line+" at "+inScope(c), fails, ran(impl.ScopeCommand(c, line)))
			expect(t, "RunScope "+line+" at "+inScope(c), fails, ran(impl.RunScope(c, line+"\n")))
		}
		expect(t, "RunScope of nothing at "+inScope(c), fails, ran(impl.RunScope(c, "")))
		expect(t, "PictureOf "+inScope(c), " false", call(impl.PictureOf(c, 0, 1)))
	}
}
