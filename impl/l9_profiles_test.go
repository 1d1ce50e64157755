package impl

import (
	"maps"
	"slices"
	"strconv"
	"sync"
	"testing"
)

// TestSharesOfRuns looks whether each run is in one share, whatever their number is, and leaves the iterator of a share at each of
// its runs; it would panic if it went on.
func TestSharesOfRuns(t *testing.T) {
	for size := range 62 {
		runs := slices.Collect(numbered(size))
		var shared []string
		for worker := range workers {
			share := slices.Collect(shareOf(runs, worker))
			shared = append(shared, share...)
			for stop := range len(share) + 2 {
				var left []string
				for run := range shareOf(runs, worker) {
					if len(left) == stop {
						break
					}
					left = append(left, run)
				}
				if !slices.Equal(left, share[:min(stop, len(share))]) {
					t.Errorf("share %d of %d, left at %d: %q", worker, size, stop, left)
				}
			}
		}
		slices.Sort(shared)
		slices.Sort(runs)
		if !slices.Equal(shared, runs) {
			t.Errorf("the shares of %d runs have %q", size, shared)
		}
	}
}

func TestTalliedOnce(t *testing.T) {
	for size := range 130 {
		want := tally{}
		for i := range size {
			want[i] = i + 1
		}
		got := tallied(slices.Collect(numbered(size)), func(own tally, run string) {
			place, _ := strconv.Atoi(run)
			own[place] += place + 1
		})
		if !maps.Equal(got, want) {
			t.Errorf("of %d runs: %v", size, got)
		}
	}
}

// TestTotalsAtOnce adds from many goroutines; without the lock, counts would get lost, or the map would stop the program.
func TestTotalsAtOnce(t *testing.T) {
	sum := total{tally: tally{7: 5}}
	var group sync.WaitGroup
	for range 50 {
		group.Go(func() {
			for range 200 {
				sum.add(tally{-1: 1, 0: 2, 7: 3})
			}
		})
	}
	group.Wait()
	if want := (tally{-1: 10000, 0: 20000, 7: 30005}); !maps.Equal(sum.tally, want) {
		t.Errorf("the total is %v", sum.tally)
	}
}

func TestTalliesWithin(t *testing.T) {
	for _, c := range []struct {
		tally tally
		size  int
		want  bool
	}{
		{tally{}, 0, true},
		{tally{}, 3, true},
		{tally{0: 1}, 0, false},
		{tally{0: 1, 1: 1, 2: 1}, 3, true},
		{tally{0: 1, 1: 1, 2: 1}, 2, false},
		{tally{2: 1}, 3, true},
		{tally{3: 1}, 3, false},
		{tally{-1: 1, 0: 1, 1: 1}, 3, false},
		{tally{-1: 0}, 3, false},
	} {
		if got := c.tally.within(c.size); got != c.want {
			t.Errorf("%v within %d: %v", c.tally, c.size, got)
		}
	}
}
