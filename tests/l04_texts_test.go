package tests

import (
	"fmt"
	"regexp"
	"strconv"
	"strings"
	"testing"

	"loop.example/g01153/impl"
)

// diagramPattern is what the text of a diagram looks like, whatever its events and limits are.
var diagramPattern = regexp.MustCompile(`^(0|-?[1-9]\d{0,5})(,(0|-?[1-9]\d{0,5})\.(0|-?[1-9]\d{0,5})\.(0|-?[1-9]\d{0,5}))*$`)

// textOf returns the text that DiagramText should return.
func textOf(d impl.Diagram) string {
	text := fmt.Sprint(d.Events)
	for _, b := range d.Bounds {
		text += fmt.Sprintf(",%d.%d.%d", b.From, b.To, b.Most)
	}
	return text
}

// diagramIn returns the diagram that a text of numbers describes, by the numbers alone, and whether it is one.
func diagramIn(text string) (impl.Diagram, bool) {
	if !diagramPattern.MatchString(text) {
		return impl.Diagram{}, false
	}
	var numbers []int64
	for _, digits := range strings.FieldsFunc(text, func(r rune) bool { return r == ',' || r == '.' }) {
		n, _ := strconv.ParseInt(digits, 10, 64)
		numbers = append(numbers, n)
	}
	d := diagramOf(numbers[0])
	ok := d.Events >= 1 && d.Events <= 10 && len(numbers) <= 1+3*24
	for i := 1; i < len(numbers); i += 3 {
		b := bound(numbers[i], numbers[i+1], numbers[i+2])
		ok = ok && b.From >= 0 && b.From < d.Events && b.To >= 0 && b.To < d.Events && b.From != b.To && b.Most >= -1000 && b.Most <= 1000
		d.Bounds = append(d.Bounds, b)
	}
	if !ok {
		return impl.Diagram{}, false
	}
	return d, true
}

func TestDiagramText(t *testing.T) {
	for _, d := range append(smallDiagrams(), largeDiagrams()...) {
		text := textOf(d)
		expect(t, fmt.Sprint("DiagramText ", d), text+" true", call(impl.DiagramText(d)))
		expect(t, "ReadDiagram "+text, fmt.Sprint(d, true), call(impl.ReadDiagram(text)))
	}
	for _, d := range noDiagrams() {
		expect(t, fmt.Sprint("DiagramText ", d), " false", call(impl.DiagramText(d)))
		expect(t, fmt.Sprint("ReadDiagram ", textOf(d)), "{0 []} false", call(impl.ReadDiagram(textOf(d))))
	}
}

// changedTexts yields a text with each of its bytes left out, with another one in its place, and with one more in front of it or at the end.
func changedTexts(text string) func(yield func(string) bool) {
	return func(yield func(string) bool) {
		for i := range len(text) + 1 {
			for _, letter := range "0192,./-+ x\n" {
				if !yield(text[:i] + string(letter) + text[i:]) {
					return
				}
				if i < len(text) && !yield(text[:i]+string(letter)+text[i+1:]) {
					return
				}
			}
			if i < len(text) && !yield(text[:i]+text[i+1:]) {
				return
			}
		}
	}
}

func TestReadDiagram(t *testing.T) {
	texts := []string{"1", "10", "2,0.1.5", "2,1.0.-1000", "3,0.1.5,1.0.-2,1.2.4", "10,9.8.1000,0.9.-999", "2" + strings.Repeat(",0.1.5", 23), "2" + strings.Repeat(",0.1.5", 24), "2" + strings.Repeat(",1.0.-1", 25)}
	read := 0
	for _, text := range texts {
		for changed := range changedTexts(text) {
			d, ok := diagramIn(changed)
			expect(t, fmt.Sprintf("ReadDiagram %q", changed), fmt.Sprint(d, ok), call(impl.ReadDiagram(changed)))
			if ok {
				read++
			}
		}
	}
	if read == 0 {
		t.Error("no changed text is read")
	}
	for text := range allTexts("01,.-", 6) {
		d, ok := diagramIn(text)
		if got, is := impl.ReadDiagram(text); is != ok || fmt.Sprint(got) != fmt.Sprint(d) {
			t.Errorf("ReadDiagram %q: got %v %v", text, got, is)
		}
	}
}

func TestNoDiagramTexts(t *testing.T) {
	texts := []string{"", ",", ".", "none", "0", "11", "-1", "01", "+1", "1,", ",1", "1,,", "2,0.1", "2,0.1.", "2,0.1.5.", "2,0.1.5.6", "2,.0.1.5", "2,0..5", "2,0.0.5", "2,0.2.5", "2,2.0.5", "2,-1.0.5", "2,0.1.5,", "2,,0.1.5",
		"2,0.1.-0", "2,-0.1.5", "2,00.1.5", "2,0.01.5", "2,0.1.05", "2,0.1.+5", "2,0.1.5 ", " 2,0.1.5", "2, 0.1.5", "2,0.1.5\n", "2;0.1.5", "2.0.1.5", "2,0,1,5", "2,0.1.1001", "2,0.1.-1001", "2,0.1.1e2", "2,0.1.0x5",
		"9223372036854775808", "18446744073709551617", "2,0.1.9223372036854775808", "2,18446744073709551616.1.5", "2,0.1.5\x00", "2,0.1.５", strings.Repeat("2,", 9999), "2" + strings.Repeat(",0.1.5", 9999)}
	for _, text := range texts {
		expect(t, fmt.Sprintf("ReadDiagram %.40q", text), "{0 []} false", call(impl.ReadDiagram(text)))
	}
	expect(t, "no bounds", "{1 []} true", call(impl.ReadDiagram("1")))
	expect(t, "the most events", "{10 []} true", call(impl.ReadDiagram("10")))
	expect(t, "the greatest Most", "{2 [{0 1 1000}]} true", call(impl.ReadDiagram("2,0.1.1000")))
	expect(t, "the least Most", "{2 [{0 1 -1000}]} true", call(impl.ReadDiagram("2,0.1.-1000")))
	expect(t, "a contradiction", "{2 [{0 1 -1} {1 0 0}]} true", call(impl.ReadDiagram("2,0.1.-1,1.0.0")))
	expect(t, "example", "3,0.1.5,1.0.-2,1.2.4 true", call(impl.DiagramText(exampleDiagram())))
	expect(t, "example", fmt.Sprint(exampleDiagram(), true), call(impl.ReadDiagram("3,0.1.5,1.0.-2,1.2.4")))
}
