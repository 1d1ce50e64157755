package impl

import (
	"slices"
	"strings"
	"testing"
)

// TestPartsAreLeft leaves the iterator of parts at each of them; it would panic if it went on.
func TestPartsAreLeft(t *testing.T) {
	for _, c := range []struct{ text, run, parts string }{
		{"ABCD: AB AC BD CD", "bd", "bd"},
		{"ABC: AB BB BC", "abbc", "ad cd cb"},
		{"ABCD: AB BC CB CD", "abcbcbd", "abe dbe dbc"},
		{"ABCDE: AB BC CB CD DC DE", "abcbdededf", "abg ebch fch fcd"},
	} {
		n, _ := ParseNet(c.text)
		cut, _ := cuttingOf(n)
		want := strings.Fields(c.parts)
		for stop := range len(want) + 2 {
			var parts []string
			for part := range cut.parts(c.run) {
				if len(parts) == stop {
					break
				}
				parts = append(parts, part)
			}
			if !slices.Equal(parts, want[:min(stop, len(want))]) {
				t.Errorf("of %q and %q, left at %d: %q", c.text, c.run, stop, parts)
			}
		}
	}
}
