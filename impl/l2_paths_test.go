package impl

import (
	"iter"
	"strconv"
	"testing"
)

// TestToldPaths is beside the package, because no net has as many paths as the limit: what comes to the blocks of an acyclic
// net multiplies at most, and the most that numbers with the sum 16 multiply to is 324.
func TestToldPaths(t *testing.T) {
	for _, count := range []int{0, 1, 399, 400, 401, 402, 1000} {
		list, ok := told(numbered(count))
		want := count
		if count > 400 {
			want = 0
		}
		if len(list) != want || ok != (count <= 400) {
			t.Errorf("told of %d = %d, %v", count, len(list), ok)
		}
		for i, path := range list {
			if path != strconv.Itoa(i) {
				t.Fatalf("told of %d = %q at %d", count, path, i)
			}
		}
	}
}

func TestToldPathsAreLeft(t *testing.T) {
	asked := 0
	endless := func(yield func(string) bool) {
		for yield("a") {
			asked++
		}
	}
	if list, ok := told(endless); len(list) != 0 || ok || asked != 400 {
		t.Errorf("told = %d, %v, after %d", len(list), ok, asked)
	}
}

// TestPathsToExitAreLeft leaves the iterator of paths at each of its paths; it would panic if it went on.
func TestPathsToExitAreLeft(t *testing.T) {
	n, _ := ParseNet("ABCD: AB AB BC BC CD CD")
	for stop := range 8 {
		count := 0
		for range pathsToExit(n, way{block: "A"}) {
			if count == stop {
				break
			}
			count++
		}
		if count != stop {
			t.Errorf("left at %d, not at %d", count, stop)
		}
	}
}

func numbered(count int) iter.Seq[string] {
	return func(yield func(string) bool) {
		for i := range count {
			if !yield(strconv.Itoa(i)) {
				return
			}
		}
	}
}
