package impl

import (
	"slices"
	"strings"
	"testing"
)

// TestTreesAreLeft leaves the iterator of trees at each of its trees; it would panic if it went on. If two branches shared what is
// joined, trees would be missing.
func TestTreesAreLeft(t *testing.T) {
	for text, all := range map[string]string{
		"ABCD: AB AC BD CD":              "ab ad bc cd",
		"ABCD: AB AC BC BD CD":           "ab ac ae bc bd cd ce de",
		"ABCD: AB BC CB CD":              "ab ac ad bd cd",
		"ABC: BB AB BB BC BB":            "b d",
		"ABC: AC BC BB AB BB AB AC":      "b d f",
		"ABCDEFGH: AB BC CD DE EF FG GH": "abcdef abcdeg abcdfg abcefg abdefg acdefg bcdefg",
	} {
		n, _ := ParseNet(text)
		want := strings.Fields(all)
		for stop := range len(want) + 2 {
			var trees []string
			for tree := range treesOf(n) {
				if len(trees) == stop {
					break
				}
				trees = append(trees, tree)
			}
			if !slices.Equal(trees, want[:min(stop, len(want))]) {
				t.Errorf("of %q, left at %d: %q", text, stop, trees)
			}
		}
	}
}

// TestTreesOfTwoBlocks has one tree, z alone, whose text is empty.
func TestTreesOfTwoBlocks(t *testing.T) {
	n, _ := ParseNet("AB: AB AB")
	if trees := slices.Collect(treesOf(n)); !slices.Equal(trees, []string{""}) {
		t.Errorf("treesOf = %q", trees)
	}
}

func TestLeastKept(t *testing.T) {
	keep := leastKept()
	for i, told := range []struct {
		text  string
		count int
		want  string
	}{
		{"a", 7, "a"},
		{"b", 8, "a"},
		{"c", 7, "a"},
		{"d", 6, "d"},
		{"", 6, "d"},
		{"e", 0, "e"},
		{"f", 0, "e"},
		{"", -1, ""},
	} {
		if kept := keep(told.text, told.count); kept != told.want {
			t.Errorf("at %d: %q is kept, not %q", i, kept, told.want)
		}
	}
	// another one begins anew, also with a count that is not less
	if kept := leastKept()("g", 100000); kept != "g" {
		t.Errorf("%q is kept", kept)
	}
}

// TestRoundsOfOneEdge is beside the package, because RoundSum has no rounds of two bytes: an edge from a block to itself is a way back.
func TestRoundsOfOneEdge(t *testing.T) {
	n, _ := ParseNet("ABC: AB BB BC")
	for round, edges := range map[string]int{"+b": 1, "-b": 1, "+b+b": 2, "+b-b": 2, "+a+b+c+z": 4, "+z+a-b-b+c": 5, strings.Repeat("+b", 60): 60} {
		if moves, ok := readRound(n, round); len(moves) != edges || !ok {
			t.Errorf("readRound(%q) = %v, %v", round, moves, ok)
		}
	}
	for _, round := range []string{"", "b", "+", "+a", "-c", "+z", "-z", "+d", "+b+", "+a+b+c", "+b+a", "+c+b", strings.Repeat("+b", 61)} {
		if moves, ok := readRound(n, round); len(moves) != 0 || ok {
			t.Errorf("readRound(%q) = %v, %v", round, moves, ok)
		}
	}
}
