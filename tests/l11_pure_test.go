package tests

import (
	"fmt"
	"math"
	"math/rand"
	"reflect"
	"strings"
	"sync"
	"testing"

	"loop.example/g01153/impl"
)

// consolePool has arguments for the functions of chapter 11, valid ones, limits, and others.
func consolePool() map[reflect.Type][]any {
	scopes := append(someScopes(), noScopes()...)
	roomy := fullScope()
	scopes = append(scopes, impl.Scope{Names: withSpare(roomy.Names, "spare"), Waves: withSpare(roomy.Waves, "11")})
	scopes = append(scopes, impl.Scope{Names: withSpare(roomy.Names[:1], "spare"), Waves: withSpare(roomy.Waves[:1], "11")})
	scopes = append(scopes, impl.Scope{Names: withSpare([]string{}, "spare"), Waves: withSpare([]string{}, "11")})
	texts := anyOf("", "\n", " ", "fly", "set", "set n 01", "set a 10", "set a none", "set n ", "drop a", "drop z", "show a", "show none", "not a a", "not n a", "repeat a a 40", "repeat a a 1000000000000000",
		"join a a b 0", "join n a b 9", "divide a a 3 1", "divide b a 3 4", "toggle n a 64", "settle a a 50", "stretch a a 51", "switch a a b b", "count a 5", "count a -9223372036854775808", "ups clockclock",
		"show a\n", "set m 01\nnot m m\ndrop a\n\n", "set m 01\nnot m m\ndrop a\nx", strings.Repeat("\n", impl.MaxScript), strings.Repeat("\n", impl.MaxScript+1), strings.Repeat(" ", 100000), "110 a\n110 \n", "110 a\n110 \nxx", "\xff\xfe \x00", "é\n")
	return map[reflect.Type][]any{
		reflect.TypeFor[int64]():      anyOf[int64](math.MinInt64, -1, 0, 1, 5, 100, 101, impl.MaxTicks, impl.MaxTicks+1, math.MaxInt64),
		reflect.TypeFor[string]():     texts,
		reflect.TypeFor[impl.Scope](): anyOf(scopes...),
		reflect.TypeFor[[]string]():   anyOf(append(someLines(), withSpare([]string{"a", "b"}, "spare"), withSpare([]string{}, "spare"), []string{"a\nb"}, listOf("", 1334), listOf("x", 10000))...),
	}
}

func TestConsoleIsPure(t *testing.T) {
	pool := consolePool()
	for name, f := range map[string]any{
		"ValidScope": impl.ValidScope, "ScopeCommand": impl.ScopeCommand, "RunScope": impl.RunScope, "PictureOf": impl.PictureOf, "JournalOf": impl.JournalOf, "RecoverJournal": impl.RecoverJournal,
	} {
		checkPure(t, name, f, pool)
	}
}

// The waves and names of a result are new also if nothing has changed.
func TestScopesShareNothing(t *testing.T) {
	for _, line := range []string{"show a", "fly", "not n x", "set a 01", "drop a"} {
		for _, c := range []impl.Scope{scopeOf("a", "01", "b", "10"), fullScope()} {
			want := inScope(c)
			after, _, _ := impl.ScopeCommand(c, line)
			run, _, _ := impl.RunScope(c, line+"\n")
			none, _, _ := impl.RunScope(c, "")
			for _, result := range []impl.Scope{after, run, none} {
				scribble(reflect.ValueOf(result))
				expect(t, "the scope before "+line, want, inScope(c))
			}
		}
	}
	names := []string{"01", "10"}
	after, output, ok := impl.ScopeCommand(impl.Scope{Names: []string{"a", "b"}, Waves: names}, "show a")
	after.Names[0] = "x"
	expect(t, "the waves beside names that are changed", "[01 10] 01 true", after.Waves, output, ok)
}

func TestConsolesAtTheSameTime(t *testing.T) {
	const scripts = 60
	source := rand.New(rand.NewSource(18))
	var list [scripts]string
	for n := range list {
		list[n] = anyScript(source, 40)
	}
	var got [8][scripts]string
	var workers sync.WaitGroup
	for worker := range got {
		workers.Add(1)
		go func() {
			defer workers.Done()
			for n, script := range list {
				got[worker][n] = ran(impl.RunScope(fullScope(), script))
			}
		}()
	}
	workers.Wait()
	for n, script := range list {
		for worker := range got {
			expect(t, fmt.Sprintf("the results of %q", script), scriptRun(fullScope(), script), got[worker][n])
		}
	}
}
