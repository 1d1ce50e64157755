package impl

import (
	"slices"
	"strings"
	"testing"
)

// TestMoreRunsThanAreTold is beside the package, because no valid net has more than 324 runs: nets with more edges than are
// valid stand for those with more runs than MaxPaths.
func TestMoreRunsThanAreTold(t *testing.T) {
	for _, c := range []struct{ perStep, want int }{{3, 2187}, {4, 16384}, {10, 10000000}} {
		n := Net{Blocks: "ABCDEFGH"}
		for i := range 7 {
			n.Edges = append(n.Edges, slices.Repeat([]Edge{{From: n.Blocks[i : i+1], To: n.Blocks[i+1 : i+2]}}, c.perStep)...)
		}
		counts := countsToExit(n)
		if counts["A"] != c.want || counts["B"] != c.want/c.perStep || counts["H"] != 1 || len(counts) != 8 {
			t.Errorf("with %d edges a step: %v", c.perStep, counts)
		}
	}
}

// TestRunsBehindAreLeft leaves the iterator of runs at each of its runs; it would panic if it went on.
func TestRunsBehindAreLeft(t *testing.T) {
	n, _ := ParseNet("ABCD: AB AB BC BC CD CD")
	all, _ := AllRuns(n)
	for number := -1; number < len(all); number++ {
		for stop := range len(all) + 1 {
			var runs []string
			for run := range runsBehind(n, number) {
				if len(runs) == stop {
					break
				}
				runs = append(runs, run)
			}
			behind := all[number+1:]
			if want := behind[:min(stop, len(behind))]; !slices.Equal(runs, want) {
				t.Errorf("behind %d, left at %d: %s, not %s", number, stop, strings.Join(runs, " "), strings.Join(want, " "))
			}
		}
	}
}

func TestLastUpTo(t *testing.T) {
	all := func(int) bool { return true }
	for limit, want := range map[int8]int{-128: -1, -1: -1, 0: 0, 1: 0, 2: 1, 126: 2, 127: 3} {
		if got := lastUpTo([]int8{0, 2, 5, 127}, limit, all); got != want {
			t.Errorf("lastUpTo(%d) = %d", limit, got)
		}
	}
	even := func(i int) bool { return i%2 == 0 }
	for limit, want := range map[uint64]int{0: -1, 2: -1, 3: 0, 5: 0, 6: 2, 1 << 63: 2} {
		if got := lastUpTo([]uint64{3, 4, 6, 7}, limit, even); got != want {
			t.Errorf("lastUpTo(%d) = %d", limit, got)
		}
	}
	if got := lastUpTo(nil, 7, all); got != -1 {
		t.Errorf("lastUpTo of none = %d", got)
	}
}
