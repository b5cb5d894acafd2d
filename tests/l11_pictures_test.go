package tests

import (
	"fmt"
	"math"
	"strings"
	"testing"

	"loop.example/g01153/impl"
)

// pictureOf returns what PictureOf should: each wave is cut from one that is followed by blanks.
func pictureOf(c impl.Scope, from, ticks int64) string {
	picture := ""
	for i, name := range c.Names {
		marks := strings.NewReplacer("0", "_", "1", "#").Replace(c.Waves[i]) + strings.Repeat(" ", 2*impl.MaxTicks)
		picture += fmt.Sprintf("%-10s%s\n", name, marks[from:from+ticks])
	}
	return picture
}

func TestPictures(t *testing.T) {
	for _, c := range someScopes() {
		for _, from := range []int64{0, 1, 2, 5, 9, 10, 11, 99, 100, 299, 300, 301, 398, 399, impl.MaxTicks} {
			for _, ticks := range []int64{1, 2, 3, 10, 99, 100} {
				expect(t, fmt.Sprint("PictureOf ", inScope(c), " from ", from, " for ", ticks), fmt.Sprint(pictureOf(c, from, ticks), true), strings.Replace(call(impl.PictureOf(c, from, ticks)), " true", "true", 1))
			}
		}
	}
}

// Pictures behind one another have all levels of a wave.
func TestPicturesShowWaves(t *testing.T) {
	for w := range allWaves(8) {
		c := scopeOf("a", w, "abcdefghij", w+w)
		for ticks := range int64(12) {
			if ticks == 0 {
				continue
			}
			marks := [2]string{}
			for from := int64(0); from < 20; from += ticks {
				picture, ok := impl.PictureOf(c, from, ticks)
				lines := strings.SplitAfter(picture, "\n")
				if !ok || len(lines) != 3 || lines[2] != "" {
					t.Fatalf("PictureOf %s: %q", inScope(c), picture)
				}
				for i := range marks {
					expect(t, "the width of a line", fmt.Sprint(10+ticks+1), len(lines[i]))
					marks[i] += lines[i][10 : 10+ticks]
				}
			}
			for i, wave := range c.Waves {
				shown := strings.NewReplacer("_", "0", "#", "1").Replace(strings.TrimRight(marks[i], " "))
				expect(t, fmt.Sprint("what is shown of ", wave), wave, shown)
			}
		}
	}
}

func TestPictureCases(t *testing.T) {
	c := scopeOf("a", "0110", "abcdefghij", "1", "b", "")
	expect(t, "a picture", "a         _##_  \nabcdefghij#     \nb               \n true", call(impl.PictureOf(c, 0, 6)))
	expect(t, "from a later tick", "a         #_  \nabcdefghij    \nb             \n true", call(impl.PictureOf(c, 2, 4)))
	expect(t, "one tick", "a         _\nabcdefghij#\nb          \n true", call(impl.PictureOf(c, 0, 1)))
	expect(t, "behind the end", "a          \nabcdefghij \nb          \n true", call(impl.PictureOf(c, 4, 1)))
	expect(t, "no waves", " true", call(impl.PictureOf(impl.Scope{}, 0, 1)))
	expect(t, "no waves, from the last tick", " true", call(impl.PictureOf(impl.Scope{}, impl.MaxTicks, 100)))
	expect(t, "the last tick of a long wave", "a         # \n true", call(impl.PictureOf(scopeOf("a", longWaves()[4]), impl.MaxTicks-1, 2)))
}

func TestPictureLimits(t *testing.T) {
	for _, c := range []impl.Scope{{}, scopeOf("a", ""), fullScope()} {
		for _, from := range []int64{math.MinInt64, -impl.MaxTicks, -1, impl.MaxTicks + 1, impl.MaxTicks + 100, math.MaxInt64 - 50, math.MaxInt64} {
			for _, ticks := range []int64{1, 100} {
				expect(t, fmt.Sprint("PictureOf from ", from), " false", call(impl.PictureOf(c, from, ticks)))
			}
		}
		for _, ticks := range []int64{math.MinInt64, -1, 0, 101, impl.MaxTicks, math.MaxInt64} {
			for _, from := range []int64{0, impl.MaxTicks} {
				expect(t, fmt.Sprint("PictureOf for ", ticks), " false", call(impl.PictureOf(c, from, ticks)))
			}
		}
	}
}
