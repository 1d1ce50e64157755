package impl

import (
	"slices"
	"testing"
)

// TestPathsOfGroupsGetShorter joins groups to one long path, and asks the last one for the first.
func TestPathsOfGroupsGetShorter(t *testing.T) {
	chain := make([]*group, 8)
	for i := range chain {
		chain[i] = &group{}
		if i > 0 {
			chain[i].ahead = chain[i-1]
		}
	}
	if chain[7].first() != chain[0] || chain[0].ahead != nil {
		t.Fatal("another group stands for all")
	}
	for i, g := range chain[1:] {
		if g.ahead != chain[0] {
			t.Errorf("the path of group %d is not shorter", i+1)
		}
	}
}

func TestJoinedGroups(t *testing.T) {
	a, b, c, d := &group{}, &group{}, &group{}, &group{}
	for i, joined := range []bool{a.join(b), c.join(d), a.join(d), !b.join(c), !c.join(a), !a.join(a), !d.join(b)} {
		if !joined {
			t.Errorf("join %d", i)
		}
	}
}

// TestLabelsAreCopied looks whether labels stay what they are when others are made of them.
func TestLabelsAreCopied(t *testing.T) {
	n, _ := ParseNet("ABCD: AB AC BD CD")
	before := labelsOf(n)
	after := before.joined(3, 0)
	if before != labelsOf(n) || after == before || after[3] != after[0] || after[1] == after[0] || after[1] == after[2] {
		t.Errorf("of %v come %v", before, after)
	}
	if after.countTrees(n, 0, 2) != 4 || after != before.joined(3, 0) {
		t.Errorf("labels are %v after trees are counted", after)
	}
}

func TestHeaviestFirst(t *testing.T) {
	weights := []int{3, 0, 3, 9, 0, 9, 3}
	if places := heaviestFirst(weights); !slices.Equal(places, []int{3, 5, 0, 2, 6, 1, 4}) {
		t.Errorf("heaviestFirst = %v", places)
	}
	if !slices.Equal(weights, []int{3, 0, 3, 9, 0, 9, 3}) {
		t.Errorf("weights are now %v", weights)
	}
}
