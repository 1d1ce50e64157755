package tests

import (
	"math/rand"
	"slices"
	"strings"
	"testing"

	"loop.example/pathcounts/impl"
)

const (
	diamond  = "ABCD: AB AC BD CD"
	sixNet   = "ABCDEF: AB AC BC BD CD DE DF EF"
	twiceNet = "ABC: AB AB BC BC"
	chainNet = "ABCDEFGH: AB BC CD DE EF FG GH"
)

// summed has nets and trees with results that were worked out by hand: the height of each block in the order of Blocks, and the
// step of each edge.
var summed = []struct {
	text, tree     string
	heights, steps []int
	adds           int
}{
	{diamond, "ab", []int{0, 0, 1, 0}, []int{0, 0, 0, 1}, 1},
	{diamond, "ad", []int{0, 0, 0, 0}, []int{0, 1, 0, 0}, 1},
	{diamond, "bc", []int{0, 0, 1, 0}, []int{0, 0, 0, 1}, 1},
	{diamond, "cd", []int{0, 0, 0, 0}, []int{0, 1, 0, 0}, 1},
	// heights and steps below 0
	{sixNet, "acgh", []int{0, 0, 0, -1, 0, 0}, []int{0, 4, 0, 3, 1, -1, 0, 0}, 4},
	{sixNet, "acef", []int{0, 0, 0, 0, 0, 0}, []int{0, 4, 0, 2, 0, 0, 1, 0}, 3},
	{sixNet, "abdf", []int{0, 0, 4, 2, 2, 0}, []int{0, 0, -4, 0, 2, 0, 3, 2}, 4},
	{twoTurns, "abdef", []int{0, 0, 2, 2, 2, 3, 0}, []int{0, 0, -2, 0, 0, 0, 2, 3}, 3},
	{twoTurns, "abfgh", []int{0, 0, 2, -1, 0, 0, 0}, []int{0, 0, 1, 3, -1, 0, 0, 0}, 3},
	// heights of blocks to which the way begins with z
	{twoTurns, "abcef", []int{0, 0, 2, 0, 0, 1, 0}, []int{0, 0, 0, 2, 0, 0, 0, 1}, 2},
	{twoTurns, "abcfg", []int{0, 0, 2, 0, 0, 1, 0}, []int{0, 0, 0, 2, 0, 0, 0, 1}, 2},
	{twoTurns, "bcegh", []int{0, 0, 2, 0, 0, 0, 0}, []int{0, 0, 0, 2, 0, 1, 0, 0}, 2},
	{twoTurns, "cdegh", []int{0, 0, 0, 0, 0, 0, 0}, []int{0, 2, 0, 0, 0, 1, 0, 0}, 2},
	// blocks in another order than edges
	{"CAB: AB CA AB CA", "c", []int{0, -1, 0}, []int{-1, 1, 0, 3}, 3},
	{"HCG: CG HC CG HC", "d", []int{0, 2, 0}, []int{2, -2, 3, 0}, 3},
	// edges with the same ends
	{twiceNet, "a", []int{0, 0, 0}, []int{0, 2, 0, 1}, 2},
	{twiceNet, "b", []int{0, 2, 0}, []int{-2, 0, 2, 3}, 3},
	{twiceNet, "c", []int{0, 0, 0}, []int{0, 2, 0, 1}, 2},
	{twiceNet, "d", []int{0, -1, 0}, []int{1, 3, -1, 0}, 3},
	// edges from the entry to the exit; the tree is z alone, and values are steps, where there are but two blocks
	{pastNet, "b", []int{0, 1, 0}, []int{0, 0, 1, 2}, 2},
	{pastNet, "c", []int{0, 0, 0}, []int{0, 1, 0, 2}, 2},
	{"AB: AB", "", []int{0, 0}, []int{0}, 0},
	{pairNet, "", []int{0, 0}, []int{0, 1}, 1},
	{"HG: HG HG HG HG", "", []int{0, 0}, []int{0, 1, 2, 3}, 3},
	// one run alone
	{chainNet, "abcdef", make([]int, 8), make([]int, 7), 0},
	{chainNet, "bcdefg", make([]int, 8), make([]int, 7), 0},
	{chainNet, "abcefg", make([]int, 8), make([]int, 7), 0},
}

func TestLimitOfTrees(t *testing.T) {
	if impl.MaxTrees != 300 {
		t.Errorf("MaxTrees = %d", impl.MaxTrees)
	}
}

func TestHeightsAndSteps(t *testing.T) {
	for _, c := range summed {
		n := net(c.text)
		for i, b := range n.Blocks {
			if height, ok := impl.HeightOf(n, c.tree, string(b)); height != c.heights[i] || !ok {
				t.Errorf("HeightOf(%q, %q, %q) = %d, %v, not %d", c.text, c.tree, b, height, ok, c.heights[i])
			}
		}
		for i := range n.Edges {
			edge := string(rune('a' + i))
			if step, ok := impl.StepOf(n, c.tree, edge); step != c.steps[i] || !ok {
				t.Errorf("StepOf(%q, %q, %q) = %d, %v, not %d", c.text, c.tree, edge, step, ok, c.steps[i])
			}
		}
		if steps, ok := impl.StepsOf(n, c.tree); !slices.Equal(steps, c.steps) || !ok {
			t.Errorf("StepsOf(%q, %q) = %v, %v, not %v", c.text, c.tree, steps, ok, c.steps)
		}
		if count := impl.CountAdds(n, c.tree); count != c.adds {
			t.Errorf("CountAdds(%q, %q) = %d, not %d", c.text, c.tree, count, c.adds)
		}
		runs, _ := impl.AllRuns(n)
		checkSums(t, n, c.tree, runs)
	}
}

func TestSumsOnPaths(t *testing.T) {
	for _, c := range []struct {
		text, tree, path string
		sum, adds        int
	}{
		// runs: the sums are their numbers, whatever the tree
		{sixNet, "acgh", "acefh", 0, 2},
		{sixNet, "acgh", "adg", 3, 1},
		{sixNet, "acgh", "befh", 4, 3},
		{sixNet, "acef", "acefh", 0, 0},
		{sixNet, "acef", "adg", 3, 2},
		{sixNet, "acef", "befh", 4, 1},
		{sixNet, "abdf", "acefh", 0, 3},
		{sixNet, "abdf", "beg", 5, 2},
		{twoTurns, "abdef", "bdeg", 2, 1},
		{twoTurns, "abdef", "aceg", 0, 2},
		{twiceNet, "b", "ac", 0, 2},
		{twiceNet, "b", "bd", 3, 1},
		{pairNet, "", "a", 0, 0},
		{pairNet, "", "b", 1, 1},
		{"AB: AB", "", "a", 0, 0},
		{pastNet, "b", "d", 2, 1},
		{pastNet, "b", "bc", 1, 1},
		{chainNet, "abcefg", "abcdefg", 0, 0},
		// the empty path
		{sixNet, "acgh", "", 0, 0},
		{pairNet, "", "", 0, 0},
		{"AB: AB", "", "", 0, 0},
		// paths from the entry, to the exit, and neither of both
		{sixNet, "acgh", "be", 5, 2},
		{sixNet, "acgh", "ac", 0, 0},
		{sixNet, "acgh", "f", -1, 1},
		{sixNet, "acgh", "ef", 0, 2},
		{sixNet, "acgh", "cef", 0, 2},
		{sixNet, "acgh", "fh", -1, 1},
		{sixNet, "acgh", "dfh", 2, 2},
		{sixNet, "abdf", "c", -4, 1},
		{sixNet, "abdf", "ac", -4, 1},
		{sixNet, "abdf", "ceg", 1, 3},
		{twoTurns, "abfgh", "ce", 0, 2},
		{twoTurns, "abfgh", "de", 2, 2},
		{twoTurns, "abfgh", "bd", 3, 1},
		{twiceNet, "d", "b", 3, 1},
		{twiceNet, "d", "c", -1, 1},
		{twiceNet, "d", "d", 0, 0},
		{chainNet, "abcefg", "cde", 0, 0},
	} {
		n := net(c.text)
		if sum, ok := impl.SumOf(n, c.tree, c.path); sum != c.sum || !ok {
			t.Errorf("SumOf(%q, %q, %q) = %d, %v, not %d", c.text, c.tree, c.path, sum, ok, c.sum)
		}
		if count := impl.AddsOn(n, c.tree, c.path); count != c.adds {
			t.Errorf("AddsOn(%q, %q, %q) = %d, not %d", c.text, c.tree, c.path, count, c.adds)
		}
	}
}

func TestRoundSums(t *testing.T) {
	for _, c := range []struct {
		text, round string
		sum         int
	}{
		{diamond, "+c+z+a", 0},
		{diamond, "+d+z+b", 1},
		{diamond, "+b+d-c-a", 1},
		// the same one, begun at each of its blocks, and in the opposite direction
		{diamond, "+d-c-a+b", 1},
		{diamond, "-c-a+b+d", 1},
		{diamond, "-a+b+d-c", 1},
		{diamond, "+a+c-d-b", -1},
		{diamond, "-d-b+a+c", -1},
		// z in both directions, at all places
		{diamond, "+z+b+d", 1},
		{diamond, "+b+d+z", 1},
		{diamond, "-z-d-b", -1},
		{diamond, "-b-z-d", -1},
		{diamond, "-d-b-z", -1},
		{diamond, "+z+b+d-c-a-z", 1},
		// what goes back and forth
		{diamond, "+a-a", 0},
		{diamond, "-b+b", 0},
		{diamond, "+z-z", 0},
		{diamond, "-z+z", 0},
		{diamond, "+b-b+b-b", 0},
		{diamond, "+b+d-d-b", 0},
		{diamond, "+z+b-b-z", 0},
		{diamond, "+b+d+z+b+d+z", 2},
		{diamond, "+b+d+z+a+c+z", 1},
		{diamond, "+b+d+z-z-d-b", 0},
		// of the chords of the tree acgh: the sums are their steps, one of them below 0
		{sixNet, "+b-c-a", 4},
		{sixNet, "+d+g+z+a", 3},
		{sixNet, "+e+g+z+a+c", 1},
		{sixNet, "+f+h-g", -1},
		// of several chords
		{sixNet, "+d-e-b+a", -2},
		{sixNet, "+b+e+f+h+z", 4},
		{sixNet, "-z-h-f-e-b", -4},
		// edges with the same ends
		{twiceNet, "+b-a", 2},
		{twiceNet, "-b+a", -2},
		{twiceNet, "+d-c", 1},
		{twiceNet, "-d-b-z", -3},
		{pairNet, "+b-a", 1},
		{pairNet, "+b+z", 1},
		{pairNet, "-z-b", -1},
		{pairNet, "+a+z", 0},
		{"AB: AB", "+a+z", 0},
		{"AB: AB", "-z-a", 0},
		{pastNet, "+d+z", 2},
		{pastNet, "+d-c-b", 1},
	} {
		n := net(c.text)
		sum, ok := impl.RoundSum(n, c.round)
		if sum != c.sum || !ok {
			t.Errorf("RoundSum(%q, %q) = %d, %v, not %d", c.text, c.round, sum, ok, c.sum)
		}
		checkRoundSum(t, n, c.round)
	}
}

func TestLongRounds(t *testing.T) {
	n := net(diamond)
	for _, c := range []struct {
		round string
		edges int
		sum   int
	}{
		{"+d+z+b", 3, 1},
		{"-b-z-d", 3, -1},
		{"+a-a", 2, 0},
		{"-z+z", 2, 0},
		{"+b+d-c-a", 4, 1},
		{"+b+d+z+a+c+z", 6, 1},
	} {
		most := 60 / c.edges
		for times := 1; times <= most; times++ {
			if sum, ok := impl.RoundSum(n, strings.Repeat(c.round, times)); sum != c.sum*times || !ok {
				t.Errorf("RoundSum of %d times %q = %d, %v, not %d", times, c.round, sum, ok, c.sum*times)
			}
		}
		long := strings.Repeat(c.round, most)
		for _, times := range []int{most + 1, most + 2, 1000, 100000} {
			checkNoRoundSum(t, n, strings.Repeat(c.round, times))
		}
		for _, behind := range []string{"+", "-", "a", "z", "+z", "-a", c.round[:1], c.round[:2], c.round[:3], " ", "\n"} {
			checkNoRoundSum(t, n, long+behind)
		}
		checkNoRoundSum(t, n, long[:119])
		checkNoRoundSum(t, n, long[1:])
	}
	// of 59, 60 and 61 edges
	back := strings.Repeat("+b-b", 28)
	for _, round := range []string{back + "+b+d+z", "+z" + back + "+b+d", "+d+z" + back + "+b"} {
		if sum, ok := impl.RoundSum(n, round); len(round) != 118 || sum != 1 || !ok {
			t.Errorf("RoundSum of %d bytes = %d, %v", len(round), sum, ok)
		}
	}
	if sum, ok := impl.RoundSum(n, back+"+b+d-c-a"); sum != 1 || !ok {
		t.Errorf("RoundSum = %d, %v", sum, ok)
	}
	checkNoRoundSum(t, n, back+"+b-b+b+d+z")
}

func checkNoRoundSum(t *testing.T, n impl.Net, round string) {
	t.Helper()
	if sum, ok := impl.RoundSum(n, round); sum != 0 || ok {
		t.Errorf("RoundSum(%.99v, %.99q) = %d, %v", n, round, sum, ok)
	}
}

func TestTextsThatAreNoRounds(t *testing.T) {
	n := net(diamond)
	for _, round := range append([]string{
		// a way that does not come back, or comes to another block
		"+b", "-d", "+z+b", "+a+c", "-c-a", "+c+z", "+a-a+a", "+c+z+a+c", "+b+d-c", "-z-d",
		// edges of which one does not begin where the one ahead ends
		"+a+b", "+a+a", "+a-b", "-a-a", "+a+d", "+b+c+z", "+z+z", "-z-z", "+z-a", "+a+z", "+a-c", "+b+d-c+a", "+b-d-c-a", "+a-a+c-c", "+d+z+a", "+a-a-b+b",
		// signs and names that are none
		"aa", "zz", "a-a", "+aa", "+a a", "a+a-", "++--", "+-+-", "*a-a", "+a*a", "+a~a", " a-a", "+a a-", "+A-A", "+D+Z+B", "+e-e", "+q+z", "+y-y", "+{-{", "+`-`", "+a−a", "±a∓a",
		"+1-1", "+\x00-\x00", "+\xff-\xff", "+\xe1-\xe1", "\x00\x00\x00\x00", "+ä-ä",
		// what is more than a round, or less
		" +a-a", "+a-a ", "+a -a", "+a,-a", "+a-a\n", "+a-a\x00", "+a-", "+c+z+", "+c+z+a+", "c+z+a", "+c+za",
		strings.Repeat("+", 120), strings.Repeat("a", 120), strings.Repeat("+a", 60), strings.Repeat("+z", 60), strings.Repeat("\x00", 120),
	}, oddNames()...) {
		checkNoRoundSum(t, n, round)
	}
	// with names of edges that other nets have
	for round, text := range map[string]string{"+b-b": "AB: AB", "+c+z+a": pairNet, "+p-p": sixNet, "+i-i": sixNet, "+h-h": chainNet} {
		checkNoRoundSum(t, net(text), round)
	}
	last := net("AB:" + strings.Repeat(" AB", 16))
	if sum, ok := impl.RoundSum(last, "+p-b"); sum != 14 || !ok {
		t.Errorf("RoundSum = %d, %v", sum, ok)
	}
	checkNoRoundSum(t, last, "+q-b")
}

// TestNearRounds goes through all texts of up to four edges and z, in both directions.
func TestNearRounds(t *testing.T) {
	for _, text := range []string{diamond, pairNet, pastNet, "CAB: AB CA AB CA"} {
		n := net(text)
		var parts []string
		for _, name := range "abcdez" {
			parts = append(parts, "+"+string(name), "-"+string(name))
		}
		list := []string{""}
		for range 4 {
			var longer []string
			for _, ahead := range list {
				for _, part := range parts {
					longer = append(longer, ahead+part)
				}
			}
			list = longer
			for _, round := range list {
				checkRoundSum(t, n, round)
			}
		}
	}
}

// ownRoundSum looks up both ends of all edges first, and holds each one against the one behind it, in a ring.
func ownRoundSum(n impl.Net, round string) (int, bool) {
	edges := map[string]string{"+z": n.Blocks[len(n.Blocks)-1:] + n.Blocks[:1]}
	adds := map[string]int{}
	for i, value := range ownValues(n) {
		name := string(rune('a' + i))
		edges["+"+name], edges["-"+name] = n.Edges[i].From+n.Edges[i].To, n.Edges[i].To+n.Edges[i].From
		adds["+"+name], adds["-"+name] = value, -value
	}
	edges["-z"] = n.Blocks[:1] + n.Blocks[len(n.Blocks)-1:]
	if len(round)%2 != 0 || len(round) < 2 || len(round) > 120 {
		return 0, false
	}
	sum := 0
	for i := 0; i < len(round); i += 2 {
		next := (i + 2) % len(round)
		one, two := edges[round[i:i+2]], edges[round[next:next+2]]
		if one == "" || two == "" || one[1] != two[0] {
			return 0, false
		}
		sum += adds[round[i:i+2]]
	}
	return sum, true
}

func checkRoundSum(t *testing.T, n impl.Net, round string) bool {
	t.Helper()
	want, wantOK := ownRoundSum(n, round)
	if sum, ok := impl.RoundSum(n, round); sum != want || ok != wantOK {
		t.Fatalf("RoundSum(%v, %q) = %d, %v, not %d, %v", n, round, sum, ok, want, wantOK)
	}
	return wantOK
}

// turnedRound returns the round in the opposite direction.
func turnedRound(round string) string {
	turned := ""
	for i := 0; i < len(round); i += 2 {
		turned = map[byte]string{'+': "-", '-': "+"}[round[i]] + round[i+1:i+2] + turned
	}
	return turned
}

// TestRoundsOfSomeNets wanders about until it comes back to where it began.
func TestRoundsOfSomeNets(t *testing.T) {
	dice := rand.New(rand.NewSource(6))
	someNets(300, true, func(n impl.Net) {
		ways := n.Edges
		names, _ := impl.NamesOf(n)
		ways, names = append(slices.Clone(ways), impl.Edge{From: n.Blocks[len(n.Blocks)-1:], To: n.Blocks[:1]}), names+"z"
		start := string(n.Blocks[dice.Intn(len(n.Blocks))])
		here, round := start, ""
		for len(round) < 130 {
			i := dice.Intn(len(ways))
			switch {
			case ways[i].From == here:
				here, round = ways[i].To, round+"+"+names[i:i+1]
			case ways[i].To == here:
				here, round = ways[i].From, round+"-"+names[i:i+1]
			default:
				continue
			}
			if checkRoundSum(t, n, round) != (here == start && len(round) <= 120) {
				t.Fatalf("%q of %v", round, n)
			}
			if here != start || len(round) > 120 {
				continue
			}
			sum, _ := impl.RoundSum(n, round)
			if turned, ok := impl.RoundSum(n, turnedRound(round)); turned != -sum || !ok {
				t.Fatalf("RoundSum(%v, %q) = %d, but turned %d", n, round, sum, turned)
			}
			at := 2 * dice.Intn(len(round)/2)
			if begun, ok := impl.RoundSum(n, round[at:]+round[:at]); begun != sum || !ok {
				t.Fatalf("RoundSum(%v, %q) = %d, but begun at %d %d", n, round, sum, at, begun)
			}
		}
	})
}

func TestFewestAdds(t *testing.T) {
	for _, c := range []struct {
		text, tree string
		adds       int
	}{
		// all trees have as few
		{diamond, "ab", 1},
		{pastNet, "b", 2},
		{chainNet, "abcdef", 0},
		{"ABC: AB BC", "a", 0},
		// several trees have as few, and others more
		{twiceNet, "a", 2},
		{twoTurns, "abcef", 2},
		{"CAB: AB CA AB CA", "a", 2},
		// the first tree is not the one
		{sixNet, "acef", 3},
		{"HGCBEF: GB GC BE HF CE EF GC GC CE HC HG EF CE HE CE CF", "abcj", 10},
		{"CEABHD: CB CH CA CA HD HD AD CE CH EA EB CH CE CE BH", "aceh", 10},
		// z alone
		{"AB: AB", "", 0},
		{pairNet, "", 1},
		{"AB:" + strings.Repeat(" AB", 16), "", 15},
	} {
		n := net(c.text)
		if tree, ok := impl.FewestAdds(n); tree != c.tree || !ok || impl.CountAdds(n, tree) != c.adds {
			t.Errorf("FewestAdds(%q) = %q, %v, with %d, not %q with %d", c.text, tree, ok, impl.CountAdds(n, tree), c.tree, c.adds)
		}
		checkFewest(t, n)
	}
}

// TestFewestAddsOfManyTrees has nets with as many trees as are gone through, and with one more or many more.
func TestFewestAddsOfManyTrees(t *testing.T) {
	for _, c := range []struct {
		text  string
		trees int
	}{
		{"BDHGFE: DG FE BF DE BH BD BD GF BD BF HF BH BG BD BE BH", 299},
		{"CEABHD: CB CH CA CA HD HD AD CE CH EA EB CH CE CE BH", 299},
		{"HGCBEF: GB GC BE HF CE EF GC GC CE HC HG EF CE HE CE CF", 300},
		{"CABFGH: CG CA FH GH CB CF CF CB CG AB FH BH CA CG CA CG", 300},
		{"CEGDFHB: EB HB CB GH CE CD GH CG GB CG EB DF FB CE CF GH", 300},
		{"CHBDFE: FE HD HF DE CE CH DE CB CH BE CB FE CF FE CD HD", 300},
		{"GFHACB: HB FB GF FC GA AC CB FA GB GA FH HC GA GF GF", 301},
		{"ECHBFDA: DA BD EB HF EH DA HB EC EB FD EB CF FD", 301},
		{"FGDEBC: FD GC FB DB FG EC FD BC DC EB FB DC FC FE GE FD", 301},
		{"ABCDEFGH: AB AC AD AE AF AG BH CH DH EH FH GH AB AC AD AE", 324},
		{"ABCDEFGH: AB AB BC BC CD CD DE DE EF EF FG FG FG GH GH GH", 912},
	} {
		n := net(c.text)
		if count := impl.CountTrees(n); count != c.trees || !impl.IsAcyclic(n) {
			t.Errorf("CountTrees(%q) = %d, not %d", c.text, count, c.trees)
		}
		checkFewest(t, n)
		// the other functions go through no trees
		runs, _ := impl.AllRuns(n)
		tree, _ := impl.TreeOf(n, make([]int, len(n.Edges)))
		checkSums(t, n, tree, runs)
	}
}

// checkNoSum expects that nothing is added, as the net, the tree or what is told by the other arguments is none.
func checkNoSum(t *testing.T, n impl.Net, tree string, blocks, edges, paths []string) {
	t.Helper()
	for _, block := range blocks {
		if height, ok := impl.HeightOf(n, tree, block); height != 0 || ok {
			t.Errorf("HeightOf(%.99v, %.99q, %.99q) = %d, %v", n, tree, block, height, ok)
		}
	}
	for _, edge := range edges {
		if step, ok := impl.StepOf(n, tree, edge); step != 0 || ok {
			t.Errorf("StepOf(%.99v, %.99q, %.99q) = %d, %v", n, tree, edge, step, ok)
		}
	}
	for _, path := range paths {
		if sum, ok := impl.SumOf(n, tree, path); sum != 0 || ok {
			t.Errorf("SumOf(%.99v, %.99q, %.99q) = %d, %v", n, tree, path, sum, ok)
		}
		if count := impl.AddsOn(n, tree, path); count != -1 {
			t.Errorf("AddsOn(%.99v, %.99q, %.99q) = %d", n, tree, path, count)
		}
	}
}

// checkNoSums expects a net that is not acyclic, or a text that is no tree of it.
func checkNoSums(t *testing.T, n impl.Net, tree string) {
	t.Helper()
	checkNoSum(t, n, tree, []string{"", "A", "B", "C", "D", "G", "H"}, []string{"", "a", "b", "c", "d", "e", "h", "z"}, []string{"", "a", "b", "c", "ab", "ac", "abd", "aceg", "bdfh"})
	if steps, ok := impl.StepsOf(n, tree); len(steps) != 0 || ok {
		t.Errorf("StepsOf(%.99v, %.99q) = %v, %v", n, tree, steps, ok)
	}
	if count := impl.CountAdds(n, tree); count != -1 {
		t.Errorf("CountAdds(%.99v, %.99q) = %d", n, tree, count)
	}
}

// checkNoRounds expects a net that is not acyclic.
func checkNoRounds(t *testing.T, n impl.Net) {
	t.Helper()
	if tree, ok := impl.FewestAdds(n); tree != "" || ok {
		t.Errorf("FewestAdds(%.99v) = %q, %v", n, tree, ok)
	}
	for _, round := range []string{"", "+a-a", "-a+a", "+z-z", "-z+z", "+a+z", "+b+c", "+c+b", "+b", "+b-b", "+d+z+a+b", "+a+c+z"} {
		checkNoRoundSum(t, n, round)
	}
}

func TestSumsOfInvalidNets(t *testing.T) {
	for _, n := range invalidNets() {
		for _, tree := range []string{"", "a", "b", "c", "ab", "bc", "abcdef", "abcdefg", "z"} {
			checkNoSums(t, n, tree)
		}
		checkNoRounds(t, n)
	}
}

// TestSumsOfNetsWithWaysBack has trees and rounds that would be ones, some far from all ways back.
func TestSumsOfNetsWithWaysBack(t *testing.T) {
	for _, c := range allTrees {
		n := net(c.text)
		if impl.IsAcyclic(n) {
			continue
		}
		checkNoRounds(t, n)
		for _, tree := range c.trees {
			checkNoSums(t, n, tree)
		}
	}
	for _, text := range []string{"ABCD: AB AC BB BD CD", "ABCD: AB BC CB CD AD", "ABCDEFGH: AB AC AD BE CE DE EF EG FH GH FG GF"} {
		n := net(text)
		tree, _ := impl.TreeOf(n, make([]int, len(n.Edges)))
		checkNoSums(t, n, tree)
		checkNoRounds(t, n)
		chords, _ := impl.ChordsOf(n, tree)
		for _, chord := range strings.Split(chords, "") {
			round, _ := impl.RoundOf(n, tree, chord)
			checkNoRoundSum(t, n, round)
		}
	}
}

// noTrees has, for some acyclic nets, texts that are no trees of them.
func noTrees() map[string][]string {
	return map[string][]string{
		twoTurns: {
			"", "a", "abde", "abdefg", "abcdefgh", "abcde", "aefgh", "fedba", "aabde", "aaaaa", "abdez", "abdefz", "abdei", "ABDEF", "+abde", "abdef ", " abdef", "ab de", "abdef\n",
			"abde\x00", "\x00\x00\x00\x00\x00", "abde\xff", "abdä", strings.Repeat("abdef", 100000),
		},
		diamond:  {"", "a", "ac", "bd", "ba", "abc", "aa", "az"},
		pairNet:  {"a", "b", "ab", "z", " "},
		"AB: AB": {"a", "z", "b"},
		pastNet:  {"", "a", "d", "bc", "ab"},
	}
}

func TestSumsOfTextsThatAreNoTrees(t *testing.T) {
	for text, trees := range noTrees() {
		for _, tree := range trees {
			checkNoSums(t, net(text), tree)
		}
	}
}

func TestSumsOfOtherArguments(t *testing.T) {
	blocks := append(oddNames(), "H", "a", "g", "z", "AG", "ABCDEFG")
	edges := append(oddNames(), "i", "p", "A", "G", "ac", "abdef", "+c", "c ")
	paths := []string{
		"ab", "ba", "ad", "ca", "aa", "acc", "acf ", " ac", "a c", "ac\n", "ac\x00", "ace+", "+a+c", "acegz", "zac", "z", "i", "aci", "acez", "ACEG", "ABDEG", "aceh", "acegg", "acegaceg",
		"\x00", "\xff", "ac\xe5", "ä", strings.Repeat("aceg", 100000), strings.Repeat("a", 61),
	}
	checkNoSum(t, net(twoTurns), "abdef", blocks, edges, paths)
	checkNoSum(t, net(pairNet), "", append(oddNames(), "C"), append(oddNames(), "c"), []string{"ab", "ba", "aa", "c", "z", "A", "az"})
	checkNoSum(t, net("AB: AB"), "", []string{"C", "H", "a"}, []string{"b", "z", "A"}, []string{"b", "aa", "z"})
}

// TestMemoryOfSums writes to all results, their unused capacity included, and looks whether an argument or another result changes.
func TestMemoryOfSums(t *testing.T) {
	spare := append(net(twoTurns).Edges, impl.Edge{From: "X", To: "Y"})
	n := impl.Net{Blocks: "ABCDEFG", Edges: spare[:8]}
	before := slices.Clone(spare)
	want := []int{0, 0, -2, 0, 0, 0, 2, 3}
	one, _ := impl.StepsOf(n, "abdef")
	two, _ := impl.StepsOf(n, "abdef")
	all := one[:cap(one)]
	for i := range all {
		all[i] = -7
	}
	if three, ok := impl.StepsOf(n, "abdef"); !slices.Equal(two, want) || !slices.Equal(three, want) || !ok {
		t.Errorf("StepsOf shares memory: %v, %v", two, three)
	}
	for range 2 {
		height, _ := impl.HeightOf(n, "abdef", "F")
		step, _ := impl.StepOf(n, "abdef", "c")
		sum, _ := impl.SumOf(n, "abdef", "bdfh")
		round, _ := impl.RoundSum(n, "+h+z+b+d+f")
		fewest, _ := impl.FewestAdds(n)
		if height != 3 || step != -2 || sum != 3 || round != 3 || fewest != "abcef" || impl.CountAdds(n, "abdef") != 3 || impl.AddsOn(n, "abdef", "aceg") != 2 {
			t.Errorf("results are %d, %d, %d, %d, %q", height, step, sum, round, fewest)
		}
	}
	if !slices.Equal(spare, before) {
		t.Errorf("the argument is now %v", spare)
	}
}

// ownValues expects an acyclic net, and counts paths by going along all of them.
func ownValues(n impl.Net) []int {
	var paths func(block string) int
	paths = func(block string) int {
		if block == n.Blocks[len(n.Blocks)-1:] {
			return 1
		}
		count := 0
		for _, e := range n.Edges {
			if e.From == block {
				count += paths(e.To)
			}
		}
		return count
	}
	values := make([]int, len(n.Edges))
	for i, e := range n.Edges {
		for _, ahead := range n.Edges[:i] {
			if ahead.From == e.From {
				values[i] += paths(ahead.To)
			}
		}
	}
	return values
}

// ownHeights gives heights to the ends of edges of the tree, wherever one of both has one, until all have.
func ownHeights(n impl.Net, tree string, values []int) map[string]int {
	heights := map[string]int{n.Blocks[:1]: 0, n.Blocks[len(n.Blocks)-1:]: 0}
	for len(heights) < len(n.Blocks) {
		for i := range len(tree) {
			edge := tree[i] - 'a'
			e := n.Edges[edge]
			from, begun := heights[e.From]
			to, ended := heights[e.To]
			switch {
			case begun && !ended:
				heights[e.To] = from + values[edge]
			case ended && !begun:
				heights[e.From] = to - values[edge]
			}
		}
	}
	return heights
}

func ownSteps(n impl.Net, tree string, values []int) []int {
	heights := ownHeights(n, tree, values)
	steps := slices.Clone(values)
	for i, e := range n.Edges {
		steps[i] += heights[e.From] - heights[e.To]
	}
	return steps
}

// checkSums compares heights, steps and sums with what their definitions say, and the sums of all runs with their numbers.
func checkSums(t *testing.T, n impl.Net, tree string, runs []string) {
	t.Helper()
	values := ownValues(n)
	heights, want := ownHeights(n, tree, values), ownSteps(n, tree, values)
	for _, b := range n.Blocks {
		height, ok := impl.HeightOf(n, tree, string(b))
		way, _ := impl.WayIn(n, tree, n.Blocks[:1], string(b))
		if along := wayAdds(way, values); height != heights[string(b)] || height != along || !ok {
			t.Fatalf("HeightOf(%v, %q, %q) = %d, %v, not %d, %d", n, tree, b, height, ok, heights[string(b)], along)
		}
	}
	steps, ok := impl.StepsOf(n, tree)
	if !slices.Equal(steps, want) || !ok {
		t.Fatalf("StepsOf(%v, %q) = %v, %v, not %v", n, tree, steps, ok, want)
	}
	adds := 0
	for i := range n.Edges {
		edge := string(rune('a' + i))
		if step, ok := impl.StepOf(n, tree, edge); step != want[i] || !ok {
			t.Fatalf("StepOf(%v, %q, %q) = %d, %v, not %d", n, tree, edge, step, ok, want[i])
		}
		if want[i] != 0 {
			adds++
		}
		checkStepOfRound(t, n, tree, edge, steps[i])
	}
	if count := impl.CountAdds(n, tree); count != adds {
		t.Fatalf("CountAdds(%v, %q) = %d, not %d", n, tree, count, adds)
	}
	for number, run := range runs {
		if sum, ok := impl.SumOf(n, tree, run); sum != number || sum != impl.NumberOf(n, run) || !ok {
			t.Fatalf("SumOf(%v, %q, %q) = %d, %v, not %d", n, tree, run, sum, ok, number)
		}
		checkSum(t, n, tree, run, steps)
	}
}

// wayAdds goes along a way as it is written.
func wayAdds(way string, values []int) int {
	sum := 0
	for i := 0; i < len(way); i += 2 {
		sign := map[byte]int{'+': 1, '-': -1}[way[i]]
		if way[i+1] != 'z' {
			sum += sign * values[way[i+1]-'a']
		}
	}
	return sum
}

// checkStepOfRound expects that an edge of the tree adds nothing, and a chord what its round does.
func checkStepOfRound(t *testing.T, n impl.Net, tree, edge string, step int) {
	t.Helper()
	if strings.Contains(tree, edge) {
		if step != 0 {
			t.Fatalf("with the tree %q of %v the step of %q is %d", tree, n, edge, step)
		}
		return
	}
	round, _ := impl.RoundOf(n, tree, edge)
	if sum, ok := impl.RoundSum(n, round); sum != step || !ok {
		t.Fatalf("RoundSum(%v, %q) = %d, %v, not the step %d", n, round, sum, ok, step)
	}
	if sum, ok := impl.RoundSum(n, turnedRound(round)); sum != -step || !ok {
		t.Fatalf("RoundSum(%v, %q turned) = %d, %v, not %d", n, round, sum, ok, -step)
	}
}

// checkSum adds up steps along a path.
func checkSum(t *testing.T, n impl.Net, tree, path string, steps []int) {
	t.Helper()
	want, adds := 0, 0
	for i := range len(path) {
		step := steps[path[i]-'a']
		want += step
		if step != 0 {
			adds++
		}
	}
	if sum, ok := impl.SumOf(n, tree, path); sum != want || !ok {
		t.Fatalf("SumOf(%v, %q, %q) = %d, %v, not %d", n, tree, path, sum, ok, want)
	}
	if count := impl.AddsOn(n, tree, path); count != adds {
		t.Fatalf("AddsOn(%v, %q, %q) = %d, not %d", n, tree, path, count, adds)
	}
}

// checkPieces looks at the pieces of some runs, which are paths from any block to any one, and at the empty path.
func checkPieces(t *testing.T, n impl.Net, tree string, runs []string) {
	t.Helper()
	steps := ownSteps(n, tree, ownValues(n))
	for _, run := range runs {
		for from := range len(run) {
			for to := from; to <= len(run); to++ {
				checkSum(t, n, tree, run[from:to], steps)
			}
		}
	}
}

// checkFewest holds the tree that is found against all trees, which are looked for among all sets of edges, in the order of bytes.
func checkFewest(t *testing.T, n impl.Net) {
	t.Helper()
	values := ownValues(n)
	best, least, count := "", 100, 0
	treesBySets(n, func(edges string, tree bool) {
		if !tree {
			return
		}
		count++
		adds := 0
		for _, step := range ownSteps(n, edges, values) {
			if step != 0 {
				adds++
			}
		}
		if adds < least {
			best, least = edges, adds
		}
	})
	if count > 300 {
		best = ""
	}
	if tree, ok := impl.FewestAdds(n); tree != best || ok != (count <= 300) {
		t.Fatalf("FewestAdds(%v) = %q, %v, not %q, of %d trees", n, tree, ok, best, count)
	}
}

func TestSumsOfSmallNets(t *testing.T) {
	smallNets(func(n impl.Net) {
		if hasRound(n) {
			tree, _ := impl.TreeOf(n, make([]int, len(n.Edges)))
			checkNoSums(t, n, tree)
			checkNoRounds(t, n)
			return
		}
		runs, _ := impl.AllRuns(n)
		treesBySets(n, func(edges string, tree bool) {
			if tree {
				checkSums(t, n, edges, runs)
				checkPieces(t, n, edges, runs)
			} else {
				checkNoSums(t, n, edges)
			}
		})
		checkFewest(t, n)
	})
}

// treeByChance returns the heaviest tree by weights that are thrown.
func treeByChance(dice *rand.Rand, n impl.Net) string {
	weights := make([]int, len(n.Edges))
	for i := range weights {
		weights[i] = dice.Intn(100)
	}
	tree, _ := impl.TreeOf(n, weights)
	return tree
}

func TestSumsOfSomeNets(t *testing.T) {
	dice := rand.New(rand.NewSource(7))
	someNets(200, true, func(n impl.Net) {
		runs, _ := impl.AllRuns(n)
		for range 4 {
			tree := treeByChance(dice, n)
			checkSums(t, n, tree, runs)
			checkPieces(t, n, tree, runs[:min(len(runs), 5)])
		}
		checkFewest(t, n)
	})
	someNets(100, false, func(n impl.Net) {
		if hasRound(n) {
			tree, _ := impl.TreeOf(n, make([]int, len(n.Edges)))
			checkNoSums(t, n, tree)
			checkNoRounds(t, n)
		}
	})
}
