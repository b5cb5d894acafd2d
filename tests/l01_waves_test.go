package tests

import (
	"fmt"
	"math"
	"math/big"
	"regexp"
	"strconv"
	"strings"
	"testing"

	"loop.example/g01153/impl"
)

// shape is what a wave looks like, found level by level.
type shape struct {
	ups, downs, pulses, gaps []int64
	runs                     string
}

func shapeOf(w string) shape {
	var s shape
	before := byte('0')
	for tick := range len(w) {
		if w[tick] != before {
			if before = w[tick]; before == '1' {
				s.ups = append(s.ups, int64(tick))
			} else {
				s.downs = append(s.downs, int64(tick))
			}
		}
	}
	for _, pulse := range regexp.MustCompile("1+").FindAllString(w, -1) {
		s.pulses = append(s.pulses, int64(len(pulse)))
	}
	for _, gap := range regexp.MustCompile("0+").FindAllString(strings.Trim(w, "0"), -1) {
		s.gaps = append(s.gaps, int64(len(gap)))
	}
	var runs []string
	for _, run := range regexp.MustCompile("0+|1+").FindAllString(w, -1) {
		runs = append(runs, run[:1]+"x"+strconv.Itoa(len(run)))
	}
	if s.runs = strings.Join(runs, " "); w == "" {
		s.runs = "none"
	}
	return s
}

// periodOf returns the least period of a wave by its definition.
func periodOf(w string) int64 {
	for period := 1; ; period++ {
		same := true
		for tick := period; tick < len(w); tick++ {
			same = same && w[tick] == w[tick-period]
		}
		if same {
			return int64(period)
		}
	}
}

// someWaves yields all short waves and some that are as long as they can be.
func someWaves() []string {
	waves := longWaves()
	for w := range allWaves(10) {
		waves = append(waves, w)
	}
	return waves
}

func TestIsWave(t *testing.T) {
	for _, w := range someWaves() {
		if !impl.IsWave(w) {
			t.Errorf("%q is no wave", w)
		}
	}
	for _, w := range noWaves() {
		if impl.IsWave(w) {
			t.Errorf("%q is a wave", w)
		}
	}
}

func TestShapesOfWaves(t *testing.T) {
	for _, w := range someWaves() {
		s := shapeOf(w)
		expect(t, "UpsOf "+w, fmt.Sprint(s.ups, true), call(impl.UpsOf(w)))
		expect(t, "DownsOf "+w, fmt.Sprint(s.downs, true), call(impl.DownsOf(w)))
		expect(t, "PulsesOf "+w, fmt.Sprint(s.pulses, true), call(impl.PulsesOf(w)))
		expect(t, "GapsOf "+w, fmt.Sprint(s.gaps, true), call(impl.GapsOf(w)))
		expect(t, "RunsOf "+w, s.runs+" true", call(impl.RunsOf(w)))
		expect(t, "ReadRuns "+s.runs, w+" true", call(impl.ReadRuns(s.runs)))
		expect(t, "WavePeriod "+w, fmt.Sprint(periodOf(w), true), call(impl.WavePeriod(w)))
	}
}

func TestWavesAreMadeByTheirEdges(t *testing.T) {
	for _, w := range someWaves() {
		s := shapeOf(w)
		expect(t, "WaveFrom of the edges of "+w, w+" true", call(impl.WaveFrom(s.ups, s.downs, int64(len(w)))))
	}
}

func TestWavesWithoutTicks(t *testing.T) {
	expect(t, "UpsOf", "[] true", call(impl.UpsOf("")))
	expect(t, "DownsOf", "[] true", call(impl.DownsOf("")))
	expect(t, "PulsesOf", "[] true", call(impl.PulsesOf("")))
	expect(t, "GapsOf", "[] true", call(impl.GapsOf("")))
	expect(t, "DutyOf", "{0 0} false", call(impl.DutyOf("")))
	expect(t, "WavePeriod", "1 true", call(impl.WavePeriod("")))
	expect(t, "DelayWave", " true", call(impl.DelayWave("", impl.MaxTicks)))
	expect(t, "RepeatWave", " true", call(impl.RepeatWave("", impl.MaxTicks)))
	expect(t, "JoinWaves", " true", call(impl.JoinWaves(2, "", "")))
	expect(t, "NotWave", " true", call(impl.NotWave("")))
	expect(t, "WaveFrom", " true", call(impl.WaveFrom(nil, []int64{}, 0)))
	expect(t, "RunsOf", "none true", call(impl.RunsOf("")))
	expect(t, "ReadRuns", " true", call(impl.ReadRuns("none")))
}

func TestFunctionsRequireWaves(t *testing.T) {
	for _, w := range noWaves() {
		expect(t, "UpsOf "+w, "[] false", call(impl.UpsOf(w)))
		expect(t, "DownsOf "+w, "[] false", call(impl.DownsOf(w)))
		expect(t, "PulsesOf "+w, "[] false", call(impl.PulsesOf(w)))
		expect(t, "GapsOf "+w, "[] false", call(impl.GapsOf(w)))
		expect(t, "DutyOf "+w, "{0 0} false", call(impl.DutyOf(w)))
		expect(t, "WavePeriod "+w, "0 false", call(impl.WavePeriod(w)))
		expect(t, "DelayWave "+w, " false", call(impl.DelayWave(w, 0)))
		expect(t, "RepeatWave "+w, " false", call(impl.RepeatWave(w, 0)))
		expect(t, "JoinWaves of no wave "+w, " false", call(impl.JoinWaves(0, w, strings.Repeat("0", len(w)))))
		expect(t, "JoinWaves with no wave "+w, " false", call(impl.JoinWaves(0, strings.Repeat("0", len(w)), w)))
		expect(t, "NotWave "+w, " false", call(impl.NotWave(w)))
		expect(t, "RunsOf "+w, " false", call(impl.RunsOf(w)))
	}
}

func TestDuty(t *testing.T) {
	for _, w := range someWaves() {
		if w == "" {
			continue
		}
		share := big.NewRat(int64(strings.Count(w, "1")), int64(len(w)))
		expect(t, "DutyOf "+w, fmt.Sprintf("{%v %v} true", share.Num(), share.Denom()), call(impl.DutyOf(w)))
	}
}

func TestDelayWave(t *testing.T) {
	for w := range allWaves(6) {
		for _, ticks := range []int{0, 1, 2, 3, 4, 5, 6, 7, impl.MaxTicks} {
			late := []byte(w)
			for i := range late {
				if late[i] = '0'; i >= ticks {
					late[i] = w[i-ticks]
				}
			}
			expect(t, fmt.Sprint("DelayWave ", w, ticks), string(late)+" true", call(impl.DelayWave(w, int64(ticks))))
		}
	}
	long := strings.Repeat("1", impl.MaxTicks)
	expect(t, "by all but one", strings.Repeat("0", impl.MaxTicks-1)+"1 true", call(impl.DelayWave(long, impl.MaxTicks-1)))
	expect(t, "by all", strings.Repeat("0", impl.MaxTicks)+" true", call(impl.DelayWave(long, impl.MaxTicks)))
	for _, ticks := range []int64{-1, impl.MaxTicks + 1, math.MinInt64, math.MaxInt64} {
		expect(t, fmt.Sprint("DelayWave by ", ticks), " false", call(impl.DelayWave("01", ticks)))
	}
}

func TestRepeatWave(t *testing.T) {
	expect(t, "not at all", " true", call(impl.RepeatWave("01", 0)))
	expect(t, "once", "011 true", call(impl.RepeatWave("011", 1)))
	expect(t, "three times", "011011011 true", call(impl.RepeatWave("011", 3)))
	expect(t, "one tick up to the limit", strings.Repeat("1", impl.MaxTicks)+" true", call(impl.RepeatWave("1", impl.MaxTicks)))
	expect(t, "up to the limit", strings.Repeat("01", 200)+" true", call(impl.RepeatWave("01", 200)))
	expect(t, "past the limit", " false", call(impl.RepeatWave("01", 201)))
	expect(t, "past the limit by one", " false", call(impl.RepeatWave(strings.Repeat("1", impl.MaxTicks+1), 1)))
	expect(t, "401 is no wave", " false", call(impl.RepeatWave("1", impl.MaxTicks+1)))
	expect(t, "too often, though nothing comes", " false", call(impl.RepeatWave("", impl.MaxTicks+1)))
	expect(t, "below 0", " false", call(impl.RepeatWave("", -1)))
	expect(t, "far too often", " false", call(impl.RepeatWave("01", math.MaxInt64)))
	expect(t, "wraps around", " false", call(impl.RepeatWave("0101", 1<<62)))
}

func TestJoinWaves(t *testing.T) {
	expect(t, "and", "1000 true", call(impl.JoinWaves(0, "1100", "1010")))
	expect(t, "or", "1110 true", call(impl.JoinWaves(1, "1100", "1010")))
	expect(t, "just one", "0110 true", call(impl.JoinWaves(2, "1100", "1010")))
	expect(t, "a and not b", "0100 true", call(impl.JoinWaves(3, "1100", "1010")))
	long := longWaves()
	expect(t, "long", long[1]+" true", call(impl.JoinWaves(1, long[2], long[3])))
	for _, op := range []int64{-1, 4, math.MinInt64, math.MaxInt64} {
		expect(t, fmt.Sprint("op ", op), " false", call(impl.JoinWaves(op, "1100", "1010")))
	}
	for op := range int64(4) {
		expect(t, "shorter a", " false", call(impl.JoinWaves(op, "110", "1010")))
		expect(t, "shorter b", " false", call(impl.JoinWaves(op, "1100", "101")))
		expect(t, "b without ticks", " false", call(impl.JoinWaves(op, "1", "")))
	}
}

func TestNotWave(t *testing.T) {
	for _, w := range someWaves() {
		other := strings.NewReplacer("0", "1", "1", "0").Replace(w)
		expect(t, "NotWave "+w, other+" true", call(impl.NotWave(w)))
	}
}

// subsetOf returns the numbers of the bits of a mask.
func subsetOf(mask int) []int64 {
	var set []int64
	for i := range int64(8) {
		if mask>>i&1 == 1 {
			set = append(set, i)
		}
	}
	return set
}

func TestWaveFromAllEdges(t *testing.T) {
	const most = 6
	known := map[string]string{}
	for w := range allWaves(most) {
		s := shapeOf(w)
		known[fmt.Sprint(s.ups, s.downs, len(w))] = w + " true"
	}
	for ticks := range most + 1 {
		// One more number than ticks, so that some edges are behind the end.
		for ups := range 2 << ticks {
			for downs := range 2 << ticks {
				key := fmt.Sprint(subsetOf(ups), subsetOf(downs), ticks)
				want, ok := known[key]
				if !ok {
					want = " false"
				}
				expect(t, "WaveFrom "+key, want, call(impl.WaveFrom(subsetOf(ups), subsetOf(downs), int64(ticks))))
			}
		}
	}
}

func TestWaveFromRequires(t *testing.T) {
	expect(t, "last tick", strings.Repeat("0", 399)+"1 true", call(impl.WaveFrom([]int64{399}, nil, impl.MaxTicks)))
	expect(t, "behind the last tick", " false", call(impl.WaveFrom([]int64{400}, nil, impl.MaxTicks)))
	expect(t, "too many ticks", " false", call(impl.WaveFrom([]int64{1}, nil, impl.MaxTicks+1)))
	expect(t, "ticks below 0", " false", call(impl.WaveFrom(nil, nil, -1)))
	expect(t, "least ticks", " false", call(impl.WaveFrom(nil, nil, math.MinInt64)))
	expect(t, "ups below 0", " false", call(impl.WaveFrom([]int64{-1, 3}, []int64{1}, 5)))
	expect(t, "downs below 0", " false", call(impl.WaveFrom([]int64{0}, []int64{-1, 3}, 5)))
	expect(t, "ups fall", " false", call(impl.WaveFrom([]int64{3, 1}, []int64{2, 4}, 5)))
	expect(t, "downs fall", " false", call(impl.WaveFrom([]int64{1, 3}, []int64{4, 2}, 5)))
	expect(t, "an up twice", " false", call(impl.WaveFrom([]int64{1, 1}, []int64{2}, 5)))
	expect(t, "a down twice", " false", call(impl.WaveFrom([]int64{1}, []int64{2, 2}, 5)))
	expect(t, "both at once", " false", call(impl.WaveFrom([]int64{1, 3}, []int64{3}, 5)))
	expect(t, "down at first", " false", call(impl.WaveFrom(nil, []int64{0}, 5)))
}

// isRunsText reports whether a short text has the form of a text of runs.
func isRunsText(s string) bool {
	if s == "none" {
		return true
	}
	if !regexp.MustCompile(`^[01]x[1-9][0-9]*( [01]x[1-9][0-9]*)*$`).MatchString(s) {
		return false
	}
	ticks, before := 0, ""
	for _, run := range strings.Split(s, " ") {
		length, _ := strconv.Atoi(run[2:])
		if ticks += length; run[:1] == before {
			return false
		}
		before = run[:1]
	}
	return ticks <= impl.MaxTicks
}

func TestReadRunsOfAllTexts(t *testing.T) {
	for s := range allTexts("01x 4", 7) {
		w, ok := impl.ReadRuns(s)
		if ok != isRunsText(s) || ok && shapeOf(w).runs != s || !ok && w != "" {
			t.Fatalf("ReadRuns %q: got %q, %v", s, w, ok)
		}
	}
}

func TestReadRunsRequires(t *testing.T) {
	expect(t, "one run up to the limit", strings.Repeat("1", 400)+" true", call(impl.ReadRuns("1x400")))
	expect(t, "two runs up to the limit", strings.Repeat("1", 399)+"0 true", call(impl.ReadRuns("1x399 0x1")))
	for _, s := range []string{"", " ", "None", "none ", "none 0x1", "0x1 none", "1x401", "1x400 0x1", "0x0", "1x1 0x0", "0x-1", "0x+1", "0x01", "0x1 0x2", "1x1  0x1",
		" 0x1", "0x1 ", "0x1\n", "0X1", "0x", "x1", "0", "2x1", "00x1", "0x1x1", "0x1,1x1", "0x9223372036854775808", "0x18446744073709551617"} {
		expect(t, "ReadRuns "+s, " false", call(impl.ReadRuns(s)))
	}
}

func TestWaveExample(t *testing.T) {
	w := "0110100"
	expect(t, "ups", "[1 4] true", call(impl.UpsOf(w)))
	expect(t, "downs", "[3 5] true", call(impl.DownsOf(w)))
	expect(t, "pulses", "[2 1] true", call(impl.PulsesOf(w)))
	expect(t, "gaps", "[1] true", call(impl.GapsOf(w)))
	expect(t, "duty", "{3 7} true", call(impl.DutyOf(w)))
	expect(t, "runs", "0x1 1x2 0x1 1x1 0x2 true", call(impl.RunsOf(w)))
	expect(t, "period", "3 true", call(impl.WavePeriod("010010")))
	expect(t, "no shorter period", "3 true", call(impl.WavePeriod("001")))
}
