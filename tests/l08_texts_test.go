package tests

import (
	"fmt"
	"regexp"
	"strconv"
	"strings"
	"testing"

	"loop.example/g01153/impl"
)

// flowPattern is what the text of a flow looks like, whatever its delays and wires are.
var flowPattern = regexp.MustCompile(`^(N(?:,N)*)/((?:N\.N\.N)(?:,N\.N\.N)*)?$`)

// numberPattern is what a number in such a text looks like; each is written as N there.
var numberPattern = regexp.MustCompile(`-?\d+`)

// flowTextOf returns the text that FlowText should return.
func flowTextOf(f impl.Flow) string {
	text := strings.Trim(strings.ReplaceAll(fmt.Sprint(f.Delays), " ", ","), "[]") + "/"
	for i, w := range f.Wires {
		if i > 0 {
			text += ","
		}
		text += fmt.Sprintf("%d.%d.%d", w.From, w.To, w.Count)
	}
	return text
}

// flowIn returns the flow that a text of numbers describes, and whether it is one.
func flowIn(text string) (impl.Flow, bool) {
	exact := true
	form := numberPattern.ReplaceAllStringFunc(text, func(digits string) string {
		n, err := strconv.Atoi(digits)
		exact = exact && err == nil && strconv.Itoa(n) == digits
		return "N"
	})
	parts := flowPattern.FindStringSubmatch(form)
	if parts == nil || !exact {
		return impl.Flow{}, false
	}
	var numbers []int64
	for _, digits := range numberPattern.FindAllString(text, -1) {
		n, _ := strconv.ParseInt(digits, 10, 64)
		numbers = append(numbers, n)
	}
	delays := strings.Count(parts[1], "N")
	f := flowOf(numbers[:delays])
	for i := delays; i < len(numbers); i += 3 {
		f.Wires = append(f.Wires, wire(numbers[i], numbers[i+1], numbers[i+2]))
	}
	if !impl.ValidFlow(f) {
		return impl.Flow{}, false
	}
	return f, true
}

func TestFlowText(t *testing.T) {
	for _, f := range allFlows() {
		text := flowTextOf(f)
		expect(t, fmt.Sprint("FlowText ", f), text+" true", call(impl.FlowText(f)))
		expect(t, "ReadFlow "+text, fmt.Sprint(f, true), call(impl.ReadFlow(text)))
	}
	for _, f := range noFlows() {
		expect(t, fmt.Sprint("FlowText ", f), " false", call(impl.FlowText(f)))
		expect(t, fmt.Sprint("ReadFlow ", flowTextOf(f)), "{[] []} false", call(impl.ReadFlow(flowTextOf(f))))
	}
}

func TestReadFlow(t *testing.T) {
	texts := []string{"1/", "0/", "100,2/", "1/0.0.1", "1,2/0.1.0,1.0.1", "3,4,5/0.1.0,1.2.0,2.0.2", "1,2,3,4,5,6,7,8/7.0.20", "1,1,1,1,1,1,1,1,1/", "1/" + strings.Repeat("0.0.1,", 14) + "0.0.1", "1/" + strings.Repeat("0.0.1,", 15) + "0.0.1", "1/" + strings.Repeat("0.0.1,", 16) + "0.0.1"}
	found := map[bool]int{}
	for _, text := range texts {
		for changed := range changedTexts(text) {
			f, ok := flowIn(changed)
			found[ok]++
			expect(t, fmt.Sprintf("ReadFlow %q", changed), fmt.Sprint(f, ok), call(impl.ReadFlow(changed)))
		}
	}
	for text := range allTexts("01,./", 7) {
		f, ok := flowIn(text)
		found[ok]++
		if got, is := impl.ReadFlow(text); is != ok || fmt.Sprint(got) != fmt.Sprint(f) {
			t.Errorf("ReadFlow %q: got %v %v", text, got, is)
		}
	}
	if found[true] < 100 || found[false] < 100 {
		t.Errorf("too few texts of flows, or others: %v", found)
	}
}

func TestNoFlowTexts(t *testing.T) {
	texts := []string{"", "/", "1", "none", "none/", "/0.0.1", "1/none", ",/", "1,/", ",1/", "1,,2/", "1//", "//", "1/,", "1/0.0.1,", "1/,0.0.1", "1/0.0.1,,0.0.1", "1/0.0.1/", "1/0.0", "1/0.0.", "1/0.0.1.", "1/0.0.1.1", "1/.0.1", "1/0..1", "1/0", "1/...",
		"01/", "+1/", "-1/", "-0/", "1 /", " 1/", "1/ ", "1/\n", "1/0.0.01", "1/00.0.1", "1/0.-0.1", "1/0.0.+1", "1/0.0.-1", "1/0.0.1 ", "1/0.0.1\n", "1/0.0.1;0.0.2", "1;2/", "1.2/", "101/", "1/0.0.21", "1/0.0.0", "1/1.0.1", "1/0.1.1", "1,2/0.1.0,1.0.0",
		"1/0.0.1e0", "0x1/", "1/0.0.18446744073709551617", "18446744073709551616/", "9223372036854775808/", "1/18446744073709551616.0.1", "1\x00/", "１/", "1/0.0.１", "1\\", strings.Repeat("1,", 9999) + "1/", "1/" + strings.Repeat("0.0.1,", 9999) + "0.0.1", strings.Repeat("/", 9999)}
	for _, text := range texts {
		expect(t, fmt.Sprintf("ReadFlow %.40q", text), "{[] []} false", call(impl.ReadFlow(text)))
	}
	expect(t, "no wires", "{[1] []} true", call(impl.ReadFlow("1/")))
	expect(t, "a wire to the same vertex", "{[1] [{0 0 1}]} true", call(impl.ReadFlow("1/0.0.1")))
	expect(t, "the same wire twice", "{[0 1] [{0 1 0} {0 1 0}]} true", call(impl.ReadFlow("0,1/0.1.0,0.1.0")))
	expect(t, "the greatest numbers", "{[100 100 100 100 100 100 100 100] [{7 7 20}]} true", call(impl.ReadFlow("100,100,100,100,100,100,100,100/7.7.20")))
	expect(t, "text of no wires", "0,7/ true", call(impl.FlowText(flowOf([]int64{0, 7}))))
	expect(t, "example", "3,4,5/0.1.0,1.2.0,2.0.2 true", call(impl.FlowText(exampleFlow())))
	expect(t, "example", fmt.Sprint(exampleFlow(), true), call(impl.ReadFlow("3,4,5/0.1.0,1.2.0,2.0.2")))
}
