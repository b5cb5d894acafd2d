package tests

import (
	"fmt"
	"reflect"
	"slices"
	"strings"
	"testing"

	"loop.example/g01153/impl"
)

// expect compares the results of a call, written one after another, with what they should be.
func expect(t *testing.T, what, want string, got ...any) {
	t.Helper()
	if text := strings.TrimSuffix(fmt.Sprintln(got...), "\n"); text != want {
		t.Errorf("%s: got %s, want %s", what, text, want)
	}
}

// call joins the results of a call with two results, to be passed on as one.
func call[T any](value T, ok bool) string {
	return fmt.Sprint(value, " ", ok)
}

// ratio returns a fraction with these parts, valid or not.
func ratio(num, den int64) impl.Fraction {
	return impl.Fraction{Num: num, Den: den}
}

// allWaves yields each wave with at most so many ticks.
func allWaves(most int) func(yield func(string) bool) {
	return func(yield func(string) bool) {
		for ticks := range most + 1 {
			for levels := range 1 << ticks {
				w := fmt.Sprintf("%0*b", ticks, levels)
				if ticks == 0 {
					w = ""
				}
				if !yield(w) {
					return
				}
			}
		}
	}
}

// allTexts yields each text of at most so many of the letters.
func allTexts(letters string, most int) func(yield func(string) bool) {
	return func(yield func(string) bool) {
		var extend func(text string) bool
		extend = func(text string) bool {
			if !yield(text) {
				return false
			}
			if len(text) == most {
				return true
			}
			for _, letter := range letters {
				if !extend(text + string(letter)) {
					return false
				}
			}
			return true
		}
		extend("")
	}
}

// longWaves are waves with as many ticks as a wave can have.
func longWaves() []string {
	return []string{
		strings.Repeat("0", impl.MaxTicks),
		strings.Repeat("1", impl.MaxTicks),
		strings.Repeat("01", impl.MaxTicks/2),
		strings.Repeat("10", impl.MaxTicks/2),
		strings.Repeat("0", impl.MaxTicks-1) + "1",
		strings.Repeat("1", impl.MaxTicks-1) + "0",
	}
}

// noWaves are texts that are no waves.
func noWaves() []string {
	return []string{
		"2", "01a", " 01", "01\n", "0 1", "-1", "/", "\x00", "\xff", "é", "none", "０１",
		strings.Repeat("0", impl.MaxTicks+1),
		strings.Repeat("1", impl.MaxTicks+1),
		strings.Repeat("1", impl.MaxTicks-1) + "2",
	}
}

// withSpare returns a list with the same items, behind which there is unused capacity.
func withSpare[T any](list []T, spare T) []T {
	roomy := append(append([]T{}, list...), spare, spare, spare)
	return roomy[:len(list)]
}

// snapshot writes a value, and of its slices also the unused capacity if this is asked for.
func snapshot(v reflect.Value, spare bool) string {
	switch v.Kind() {
	case reflect.Slice:
		length := v.Len()
		if spare {
			length = v.Cap()
		}
		var text strings.Builder
		for i := range length {
			text.WriteString(snapshot(v.Slice(0, length).Index(i), spare) + ";")
		}
		return fmt.Sprint(v.Len(), "[", text.String(), "]")
	case reflect.Struct:
		var text strings.Builder
		for i := range v.NumField() {
			text.WriteString(snapshot(v.Field(i), spare) + ";")
		}
		return "{" + text.String() + "}"
	}
	return fmt.Sprintf("%#v", v.Interface())
}

// scribble overwrites all items of the slices of a value, unused capacity among them.
func scribble(v reflect.Value) {
	switch v.Kind() {
	case reflect.Slice:
		whole := v.Slice(0, v.Cap())
		for i := range whole.Len() {
			scribble(whole.Index(i))
		}
	case reflect.Struct:
		for i := range v.NumField() {
			scribble(v.Field(i))
		}
	case reflect.Int64:
		if v.CanSet() {
			v.SetInt(-77)
		}
	case reflect.String:
		if v.CanSet() {
			v.SetString("scribble")
		}
	}
}

// snapshots writes several values.
func snapshots(list []reflect.Value, spare bool) string {
	var text strings.Builder
	for _, v := range list {
		text.WriteString(snapshot(v, spare) + "|")
	}
	return text.String()
}

// isZero reports whether a result is what a function returns that fails.
func isZero(v reflect.Value) bool {
	if v.Kind() == reflect.Slice {
		return v.Len() == 0
	}
	return snapshot(v, false) == snapshot(reflect.Zero(v.Type()), false)
}

// eachCall calls visit with each combination of arguments that a pool has for the parameters of a function.
func eachCall(t *testing.T, f reflect.Type, pool map[reflect.Type][]any, visit func(args []reflect.Value)) {
	args := make([]reflect.Value, f.NumIn())
	var choose func(i int)
	choose = func(i int) {
		if i == len(args) {
			visit(args)
			return
		}
		if len(pool[f.In(i)]) == 0 {
			t.Fatalf("no arguments of the type %v", f.In(i))
		}
		for _, v := range pool[f.In(i)] {
			args[i] = reflect.ValueOf(v)
			choose(i + 1)
		}
	}
	choose(0)
}

// checkPure checks promise 1 for a function: it returns for all arguments of a pool, changes none of them,
// shares no memory with them or with its next results, returns equal results, and zero values if it fails.
func checkPure(t *testing.T, name string, f any, pool map[reflect.Type][]any) {
	t.Helper()
	function := reflect.ValueOf(f)
	eachCall(t, function.Type(), pool, func(args []reflect.Value) {
		defer func() {
			if r := recover(); r != nil {
				t.Errorf("%s(%s) panics: %v", name, snapshots(args, false), r)
			}
		}()
		before := snapshots(args, true)
		results := function.Call(args)
		first := snapshots(results, false)
		last := len(results) - 1
		for _, r := range results[:last] {
			if !results[last].Bool() && !isZero(r) {
				t.Errorf("%s(%s) fails with %s", name, snapshots(args, false), first)
			}
		}
		for _, r := range results {
			scribble(r)
		}
		second := snapshots(function.Call(args), false)
		if first != second {
			t.Errorf("%s(%s): first %s, then %s", name, snapshots(args, false), first, second)
		}
		if after := snapshots(args, true); after != before {
			t.Errorf("%s changes its arguments from %s to %s", name, before, after)
		}
	})
}

// checkSeparate checks that no two lists of a result share memory: those behind an overwritten one stay what they should be.
func checkSeparate(t *testing.T, what string, got, want [][]int64) {
	t.Helper()
	for i := range got {
		scribble(reflect.ValueOf(got[i]))
		for later := i + 1; later < len(got); later++ {
			if !slices.Equal(got[later], want[later]) {
				t.Fatalf("%s: the lists %d and %d share memory", what, i, later)
			}
		}
	}
}
