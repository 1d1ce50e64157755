package tests

import (
	"math"
	"math/rand"
	"slices"
	"strings"
	"testing"

	"loop.example/pathcounts/impl"
)

const (
	twoTurns = "ABCDEFG: AB AC BD CD DE DF EG FG"
	loopNet  = "ABCD: AB BC CB CD"
	selfNet  = "ABC: AB BB BC"
	pastNet  = "ABC: AC AB BC AC"
	pairNet  = "AB: AB AB"
)

// allTrees has nets with all their trees, in the order of bytes, that were worked out by hand.
var allTrees = []struct {
	text  string
	trees []string
}{
	// z alone
	{"AB: AB", []string{""}},
	{"HG: HG HG HG", []string{""}},
	{"ABC: AB BC", []string{"a", "b"}},
	{"CAB: AB CA", []string{"a", "b"}},
	{"ABCD: AB AC BD CD", []string{"ab", "ad", "bc", "cd"}},
	{"ABCD: AB AC BC BD CD", []string{"ab", "ac", "ae", "bc", "bd", "cd", "ce", "de"}},
	// ways back, and edges from a block to itself
	{loopNet, []string{"ab", "ac", "ad", "bd", "cd"}},
	{selfNet, []string{"a", "c"}},
	{"ABC: BB AB BB BC BB", []string{"b", "d"}},
	{"ABCD: AB BB BC CC CD CB", []string{"ac", "ae", "af", "ce", "ef"}},
	// edges with the same ends, beside each other and not
	{"ABC: AB AB BC", []string{"a", "b", "c"}},
	{"ABC: AB BC AB BC", []string{"a", "b", "c", "d"}},
	{"ABCD: AB AC BD CD AB", []string{"ab", "ad", "bc", "be", "cd", "de"}},
	// edges from the entry to the exit
	{"ABC: AC AB BC", []string{"b", "c"}},
	{"ABC: AC BC BB AB BB AB AC", []string{"b", "d", "f"}},
	{"ABCDEFGH: AB BC CD DE EF FG GH", []string{"abcdef", "abcdeg", "abcdfg", "abcefg", "abdefg", "acdefg", "bcdefg"}},
}

func TestLimitOfWeights(t *testing.T) {
	if impl.MaxWeight != 99 {
		t.Errorf("MaxWeight = %d", impl.MaxWeight)
	}
}

// TestTreesOfNets looks at all short texts, one name of no edge and texts that are too long among them.
func TestTreesOfNets(t *testing.T) {
	for _, c := range allTrees {
		n := net(c.text)
		if count := impl.CountTrees(n); count != len(c.trees) {
			t.Errorf("CountTrees(%q) = %d, not %d", c.text, count, len(c.trees))
		}
		for _, tree := range c.trees {
			if !impl.IsTree(n, tree) {
				t.Errorf("IsTree(%q, %q) = false", c.text, tree)
			}
		}
		for _, text := range texts(len(n.Edges)+1, min(len(n.Blocks)-1, 4)) {
			if want := slices.Contains(c.trees, text); impl.IsTree(n, text) != want {
				t.Errorf("IsTree(%q, %q) = %v", c.text, text, !want)
			}
		}
		// with weights of 0, of 1 and of 99 alone, the first tree in the order of bytes is the one
		for _, weight := range []int{0, 1, 99} {
			if tree, ok := impl.TreeOf(n, slices.Repeat([]int{weight}, len(n.Edges))); tree != c.trees[0] || !ok {
				t.Errorf("TreeOf(%q, all %d) = %q, %v, not %q", c.text, weight, tree, ok, c.trees[0])
			}
		}
	}
}

func TestTreeOfWeights(t *testing.T) {
	for _, c := range []struct {
		text         string
		weights      []int
		tree, chords string
		sum          int
	}{
		{"AB: AB", []int{99}, "", "a", 0},
		{pairNet, []int{0, 7}, "", "ab", 0},
		{"ABC: AB BC", []int{3, 4}, "b", "a", 4},
		{"ABC: AB BC", []int{4, 4}, "a", "b", 4},
		{"ABCD: AB AC BD CD", []int{5, 1, 1, 1}, "ab", "cd", 6},
		{"ABCD: AB AC BD CD", []int{0, 0, 0, 99}, "ad", "bc", 99},
		{twoTurns, []int{1, 5, 1, 5, 5, 1, 5, 1}, "abdef", "cgh", 17},
		// several greatest ones, of which the first ones make a way round
		{twoTurns, []int{9, 9, 9, 9, 0, 0, 0, 1}, "abceh", "dfg", 28},
		{twoTurns, []int{9, 9, 9, 9, 9, 9, 9, 9}, "abcef", "dgh", 45},
		{twoTurns, []int{0, 0, 0, 0, 0, 0, 0, 0}, "abcef", "dgh", 0},
		{twoTurns, []int{0, 0, 0, 0, 1, 1, 1, 1}, "abefg", "cdh", 3},
		{twoTurns, []int{10, 20, 30, 40, 50, 60, 70, 80}, "cdfgh", "abe", 280},
		{twoTurns, []int{99, 88, 77, 66, 55, 44, 33, 22}, "abcef", "dgh", 363},
		// the greatest edges lead from the entry to the exit, from a block to itself, or where another one leads
		{pastNet, []int{99, 1, 2, 99}, "c", "abd", 2},
		{pastNet, []int{99, 2, 2, 99}, "b", "acd", 2},
		{selfNet, []int{0, 99, 0}, "a", "bc", 0},
		{selfNet, []int{0, 99, 1}, "c", "ab", 1},
		{loopNet, []int{1, 8, 9, 2}, "cd", "ab", 11},
		{loopNet, []int{1, 9, 9, 1}, "ab", "cd", 10},
		{"ABC: AB AB BC", []int{1, 2, 2}, "b", "ac", 2},
		{"ABC: AB AB BC", []int{1, 2, 3}, "c", "ab", 3},
	} {
		n := net(c.text)
		if !impl.WeightsValid(n, c.weights) {
			t.Errorf("WeightsValid(%q, %v) = false", c.text, c.weights)
		}
		tree, ok := impl.TreeOf(n, c.weights)
		if tree != c.tree || !ok {
			t.Errorf("TreeOf(%q, %v) = %q, %v, not %q", c.text, c.weights, tree, ok, c.tree)
		}
		chords, ok := impl.ChordsOf(n, c.tree)
		if chords != c.chords || !ok {
			t.Errorf("ChordsOf(%q, %q) = %q, %v, not %q", c.text, c.tree, chords, ok, c.chords)
		}
		if sum := impl.TreeWeight(n, c.weights, c.tree); sum != c.sum {
			t.Errorf("TreeWeight(%q, %v, %q) = %d, not %d", c.text, c.weights, c.tree, sum, c.sum)
		}
	}
	// of a tree that is not the heaviest
	if sum := impl.TreeWeight(net(twoTurns), []int{10, 20, 30, 40, 50, 60, 70, 80}, "abcef"); sum != 170 {
		t.Errorf("TreeWeight = %d", sum)
	}
}

func TestWaysInTrees(t *testing.T) {
	for _, c := range []struct{ text, tree, from, to, way string }{
		{twoTurns, "abdef", "A", "A", ""},
		{twoTurns, "abdef", "A", "B", "+a"},
		{twoTurns, "abdef", "A", "F", "+b+d+f"},
		{twoTurns, "abdef", "B", "D", "-a+b+d"},
		{twoTurns, "abdef", "F", "B", "-f-d-b+a"},
		{twoTurns, "abdef", "E", "F", "-e+f"},
		{twoTurns, "abdef", "D", "D", ""},
		// by z in both directions, at the beginning, in between and at the end
		{twoTurns, "abdef", "A", "G", "-z"},
		{twoTurns, "abdef", "G", "A", "+z"},
		{twoTurns, "abdef", "G", "F", "+z+b+d+f"},
		{twoTurns, "abdef", "E", "G", "-e-d-b-z"},
		{twoTurns, "abdef", "G", "G", ""},
		{twoTurns, "cdegh", "F", "D", "+h-g-e"},
		{twoTurns, "cdegh", "A", "B", "-z-g-e-c"},
		{twoTurns, "adegh", "F", "B", "+h+z+a"},
		{twoTurns, "adegh", "B", "C", "-a-z-g-e-d"},
		// where other edges have the same ends, or lead from a block to itself
		{pairNet, "", "A", "B", "-z"},
		{pairNet, "", "B", "A", "+z"},
		{pairNet, "", "A", "A", ""},
		{pastNet, "b", "A", "C", "-z"},
		{pastNet, "c", "B", "A", "+c+z"},
		{"ABC: AB AB BC", "b", "B", "C", "-b-z"},
		{selfNet, "c", "B", "B", ""},
		{loopNet, "ac", "A", "C", "+a-c"},
		{loopNet, "ac", "C", "D", "+c-a-z"},
		{loopNet, "ab", "D", "C", "+z+a+b"},
		{"CABH: CA AB BA AH CH", "ac", "H", "B", "+z+a-c"},
	} {
		if way, ok := impl.WayIn(net(c.text), c.tree, c.from, c.to); way != c.way || !ok {
			t.Errorf("WayIn(%q, %q, %q, %q) = %q, %v, not %q", c.text, c.tree, c.from, c.to, way, ok, c.way)
		}
	}
}

// TestRoundsOfChords has, for each chord, its round and the edges that it may stand for with the tree that is so made.
func TestRoundsOfChords(t *testing.T) {
	for _, c := range []struct {
		text, tree, chord, round string
		swaps                    map[string]string
	}{
		{twoTurns, "abdef", "c", "+c-d-b+a", map[string]string{"a": "bcdef", "b": "acdef", "d": "abcef"}},
		{twoTurns, "abdef", "g", "+g+z+b+d+e", map[string]string{"b": "adefg", "d": "abefg", "e": "abdfg"}},
		{twoTurns, "abdef", "h", "+h+z+b+d+f", map[string]string{"b": "adefh", "d": "abefh", "f": "abdeh"}},
		{twoTurns, "abcef", "h", "+h+z+a+c+f", map[string]string{"a": "bcefh", "c": "abefh", "f": "abceh"}},
		{twoTurns, "adegh", "b", "+b+d+e+g+z", map[string]string{"d": "abegh", "e": "abdgh", "g": "abdeh"}},
		{loopNet, "ac", "b", "+b+c", map[string]string{"c": "ab"}},
		{loopNet, "ac", "d", "+d+z+a-c", map[string]string{"a": "cd", "c": "ad"}},
		{loopNet, "ab", "c", "+c+b", map[string]string{"b": "ac"}},
		// a chord from a block to itself, or from the entry to the exit, stands for none
		{selfNet, "c", "b", "+b", nil},
		{selfNet, "c", "a", "+a+c+z", map[string]string{"c": "a"}},
		{pastNet, "b", "a", "+a+z", nil},
		{pastNet, "b", "d", "+d+z", nil},
		{pastNet, "b", "c", "+c+z+b", map[string]string{"b": "c"}},
		{pairNet, "", "a", "+a+z", nil},
		{pairNet, "", "b", "+b+z", nil},
		// a chord with the same ends as an edge of the tree
		{"ABC: AB AB BC", "a", "b", "+b-a", map[string]string{"a": "b"}},
		{"ABC: AB AB BC", "b", "a", "+a-b", map[string]string{"b": "a"}},
	} {
		n := net(c.text)
		if round, ok := impl.RoundOf(n, c.tree, c.chord); round != c.round || !ok {
			t.Errorf("RoundOf(%q, %q, %q) = %q, %v, not %q", c.text, c.tree, c.chord, round, ok, c.round)
		}
		for _, edge := range append(oddNames(), strings.Split("abcdefgh", "")...) {
			want := c.swaps[edge]
			if tree, ok := impl.SwapIn(n, c.tree, c.chord, edge); tree != want || ok != (want != "") {
				t.Errorf("SwapIn(%q, %q, %q, %q) = %q, %v, not %q", c.text, c.tree, c.chord, edge, tree, ok, want)
			}
		}
	}
}

// TestNumbersOfTrees has nets with more trees than are gone through (MaxTrees), too.
func TestNumbersOfTrees(t *testing.T) {
	for text, want := range map[string]int{
		"AB: AB AB AB AB AB AB AB AB AB AB AB AB AB AB AB AB":  1,
		"ABC: AB AB AB AB AB AB AB AB BC BC BC BC BC BC BC BC": 16,
		"ABC: AB BB BB BB BB BB BB BB BB BB BB BB BB BB BB BC": 2,
		twoTurns: 32,
		"ABCDEFGH: AB AC AD AE AF AG BH CH DH EH FH GH":             64,
		"ABCDEF: AB AC AD AE BF CF DF EF AB AC AD AE BF CF DF EF":   256,
		"ABCDEFGH: AB AC AD AE AF AG BH CH DH EH FH GH AB AC AD AE": 324,
		"ABCDEFGH: AB AB BC BC CD CD DE DE EF EF FG FG FG GH GH GH": 912,
		"AGFEDCBH: BH BH BH CB CB CB DC DC ED ED FE FE GF GF AG AG": 912,
		"ABCDEFGH: AB BC CD DE EF FG GH BB CC DD EE FF GG BB CC DD": 7,
		"ABCDEFGH: AB BC CD DE EF FG GH CB DC ED FE GF AH AH AH AH": 144,
	} {
		if count := impl.CountTrees(net(text)); count != want {
			t.Errorf("CountTrees(%q) = %d, not %d", text, count, want)
		}
	}
}

// oddNames are names of no edge and of no block.
func oddNames() []string {
	return []string{
		"", "z", "+z", "-z", "+", "-", "+a", "-a", "aa", "ab", "ba", "abc", "i", "q", "{", "`", "@", "I", "Z", "AB", "AA", " ", "a ", " a", "A ", "\n", "a\n", "\x00", "a\x00",
		"\xff", "\xe1", "\xc1", "ä", "Ä", strings.Repeat("a", 100000), strings.Repeat("A", 100000),
	}
}

// checkNoTree expects a net that is not valid, or a text that is no tree of it; weights are those of the net, if it is valid.
func checkNoTree(t *testing.T, n impl.Net, weights []int, tree string) {
	t.Helper()
	if impl.IsTree(n, tree) {
		t.Errorf("IsTree(%.99v, %.99q) = true", n, tree)
	}
	if s, ok := impl.ChordsOf(n, tree); s != "" || ok {
		t.Errorf("ChordsOf(%.99v, %.99q) = %q, %v", n, tree, s, ok)
	}
	if sum := impl.TreeWeight(n, weights, tree); sum != -1 {
		t.Errorf("TreeWeight(%.99v, %.99v, %.99q) = %d", n, weights, tree, sum)
	}
	for _, pair := range []string{"AA", "AB", "BA", "AG", "GA", "CD", "BB", "zz"} {
		checkNoWay(t, n, tree, pair[:1], pair[1:])
	}
	for _, chord := range []string{"", "a", "b", "c", "d", "g", "h", "z"} {
		checkNoRound(t, n, tree, chord)
	}
}

func checkNoWay(t *testing.T, n impl.Net, tree, from, to string) {
	t.Helper()
	if s, ok := impl.WayIn(n, tree, from, to); s != "" || ok {
		t.Errorf("WayIn(%.99v, %.99q, %.99q, %.99q) = %q, %v", n, tree, from, to, s, ok)
	}
}

// checkNoRound expects that the chord is none; then it stands for no edge either.
func checkNoRound(t *testing.T, n impl.Net, tree, chord string) {
	t.Helper()
	if s, ok := impl.RoundOf(n, tree, chord); s != "" || ok {
		t.Errorf("RoundOf(%.99v, %.99q, %.99q) = %q, %v", n, tree, chord, s, ok)
	}
	for _, edge := range []string{"", "a", "b", "c", "d", "e", "f", "z", chord} {
		if s, ok := impl.SwapIn(n, tree, chord, edge); s != "" || ok {
			t.Errorf("SwapIn(%.99v, %.99q, %.99q, %q) = %q, %v", n, tree, chord, edge, s, ok)
		}
	}
}

// checkNoWeights expects numbers that are no weights; the tree is one, if the net is valid.
func checkNoWeights(t *testing.T, n impl.Net, weights []int, tree string) {
	t.Helper()
	if impl.WeightsValid(n, weights) {
		t.Errorf("WeightsValid(%.99v, %.99v) = true", n, weights)
	}
	if s, ok := impl.TreeOf(n, weights); s != "" || ok {
		t.Errorf("TreeOf(%.99v, %.99v) = %q, %v", n, weights, s, ok)
	}
	if sum := impl.TreeWeight(n, weights, tree); sum != -1 {
		t.Errorf("TreeWeight(%.99v, %.99v, %q) = %d", n, weights, tree, sum)
	}
}

func TestTreesOfInvalidNets(t *testing.T) {
	for _, n := range invalidNets() {
		if count := impl.CountTrees(n); count != -1 {
			t.Errorf("CountTrees(%.99v) = %d", n, count)
		}
		weights := make([]int, len(n.Edges))
		for _, tree := range []string{"", "a", "b", "c", "ab", "bc", "abcdef", "abcdefg", "z"} {
			checkNoWeights(t, n, weights, tree)
			checkNoTree(t, n, weights, tree)
		}
		checkNoWeights(t, n, nil, "")
	}
}

func TestTextsThatAreNoTrees(t *testing.T) {
	weights := make([]int, 8)
	for _, tree := range []string{
		// too few or too many edges
		"", "a", "abde", "abdefg", "abcdefgh",
		// ways round: between blocks, by z, and at both
		"abcde", "abcdf", "bdegh", "acegh", "aefgh", "abcdh",
		// in another order, twice
		"fedba", "badef", "abdfe", "aabde", "abbde", "abdeff", "abdee", "aaaaa", "ffabde",
		// what is no edge
		"abdez", "zabde", "abdefz", "zabdef", "abdei", "abdeq", "ABDEF", "abdeF", "+abde", "+a+b+", "abde ", " abde", " abdef", "abdef ", "abdef\n", "ab de", "abde\x00", "abdef\x00",
		"\x00\x00\x00\x00\x00", "abde\xff", "abde\xe6", "abdä", "\xff\xff\xff\xff\xff", strings.Repeat("abdef", 100000), strings.Repeat("a", 100000),
	} {
		checkNoTree(t, net(twoTurns), weights, tree)
	}
	// with two blocks, the empty text is the one tree
	for _, tree := range []string{"a", "b", "ab", "z", "c", " ", "\x00"} {
		checkNoTree(t, net(pairNet), []int{0, 0}, tree)
	}
	for _, tree := range []string{"", "b", "ac", "z"} {
		checkNoTree(t, net(selfNet), []int{0, 0, 0}, tree)
	}
	for _, tree := range []string{"", "a", "d", "bc", "ab"} {
		checkNoTree(t, net(pastNet), []int{0, 0, 0, 0}, tree)
	}
}

func TestOtherBlocksChordsAndEdges(t *testing.T) {
	n, tree := net(twoTurns), "abdef"
	for _, block := range append(oddNames(), "H", "a", "g", "z") {
		for _, b := range []string{"A", "D", "G", block} {
			checkNoWay(t, n, tree, block, b)
			checkNoWay(t, n, tree, b, block)
		}
	}
	for _, chord := range append(oddNames(), "a", "b", "d", "e", "f", "cg", "cc", "ch", "+c", "c ", "cgh", "C", "G") {
		checkNoRound(t, n, tree, chord)
	}
	for _, edge := range append(oddNames(), "c", "g", "h", "e", "f", "bd", "-d", "-d-b", "+a", "D", "A") {
		if s, ok := impl.SwapIn(n, tree, "c", edge); s != "" || ok {
			t.Errorf("SwapIn(%.99q) = %q, %v", edge, s, ok)
		}
	}
	// with two blocks and no edge in the tree
	for _, chord := range append(oddNames(), "c") {
		checkNoRound(t, net(pairNet), "", chord)
	}
	for _, block := range append(oddNames(), "C") {
		checkNoWay(t, net(pairNet), "", block, "A")
		checkNoWay(t, net(pairNet), "", block, block)
	}
}

func TestNumbersThatAreNoWeights(t *testing.T) {
	n, tree := net(twoTurns), "abdef"
	for _, weights := range [][]int{nil, {}, {1}, make([]int, 7), make([]int, 9), make([]int, 16), make([]int, 100000), slices.Repeat([]int{-1}, 8), slices.Repeat([]int{100}, 8)} {
		checkNoWeights(t, n, weights, tree)
	}
	for i := range 8 {
		for _, weight := range []int{-1, 100, -99, 101, 256, 1 << 32, 1<<32 + 1, -1 << 32, math.MinInt, math.MaxInt} {
			weights := slices.Repeat([]int{50}, 8)
			weights[i] = weight
			checkNoWeights(t, n, weights, tree)
		}
		for _, weight := range []int{0, 99} {
			weights := slices.Repeat([]int{50}, 8)
			weights[i] = weight
			if _, ok := impl.TreeOf(n, weights); !ok || !impl.WeightsValid(n, weights) {
				t.Errorf("WeightsValid(%v) = false", weights)
			}
		}
	}
	checkNoWeights(t, net(pairNet), nil, "")
	checkNoWeights(t, net(pairNet), []int{1}, "")
	checkNoWeights(t, net(pairNet), []int{1, 1, 1}, "")
	checkNoWeights(t, net(pairNet), []int{1, 100}, "")
}

// TestArgumentsOfTrees looks whether arguments, what lies beyond their length included, are changed.
func TestArgumentsOfTrees(t *testing.T) {
	edges := append(net(twoTurns).Edges, impl.Edge{From: "X", To: "Y"})
	numbers := []int{1, 5, 1, 5, 5, 1, 5, 1, 77, 88}
	n, weights := impl.Net{Blocks: "ABCDEFG", Edges: edges[:8]}, numbers[:8]
	edgesBefore, numbersBefore := slices.Clone(edges), slices.Clone(numbers)
	for range 2 {
		tree, _ := impl.TreeOf(n, weights)
		round, _ := impl.RoundOf(n, tree, "h")
		swapped, _ := impl.SwapIn(n, tree, "h", "f")
		way, _ := impl.WayIn(n, tree, "B", "G")
		if tree != "abdef" || round != "+h+z+b+d+f" || swapped != "abdeh" || way != "-a-z" || impl.CountTrees(n) != 32 || impl.TreeWeight(n, weights, tree) != 17 {
			t.Errorf("results are %q, %q, %q, %q", tree, round, swapped, way)
		}
	}
	if !slices.Equal(edges, edgesBefore) || !slices.Equal(numbers, numbersBefore) {
		t.Errorf("the arguments are now %v and %v", edges, numbers)
	}
}

// treesByMatrix counts trees by the matrix tree theorem: the determinant of the matrix of degrees, less that of edges, of all
// blocks but the entry and the exit, which z makes one.
func treesByMatrix(n impl.Net) int {
	size := len(n.Blocks) - 2
	matrix := make([][]int, size)
	for i := range matrix {
		matrix[i] = make([]int, size)
	}
	for _, e := range n.Edges {
		from, to := strings.Index(n.Blocks, e.From)-1, strings.Index(n.Blocks, e.To)-1
		if from == to {
			continue
		}
		if from >= 0 {
			matrix[from][from]++
		}
		if to < size {
			matrix[to][to]++
		}
		if from >= 0 && to < size {
			matrix[from][to]--
			matrix[to][from]--
		}
	}
	return determinant(matrix)
}

// determinant goes along the first row.
func determinant(matrix [][]int) int {
	if len(matrix) == 0 {
		return 1
	}
	sum, sign := 0, 1
	for i, factor := range matrix[0] {
		if factor != 0 {
			var smaller [][]int
			for _, row := range matrix[1:] {
				smaller = append(smaller, slices.Concat(row[:i], row[i+1:]))
			}
			sum += sign * factor * determinant(smaller)
		}
		sign = -sign
	}
	return sum
}

// connects tells whether edges and z, whatever their direction, connect all blocks, by going on from the entry until nothing is new.
func connects(n impl.Net, edges string) bool {
	met := map[string]bool{n.Blocks[:1]: true, n.Blocks[len(n.Blocks)-1:]: true}
	for range n.Blocks {
		for i := range len(edges) {
			if e := n.Edges[edges[i]-'a']; met[e.From] || met[e.To] {
				met[e.From], met[e.To] = true, true
			}
		}
	}
	return len(met) == len(n.Blocks)
}

// treesBySets goes through all sets of edges, the first one in the order of bytes first. As many edges as a tree has make no way round if they connect all blocks.
func treesBySets(n impl.Net, check func(edges string, tree bool)) {
	var goOn func(edges string, next int)
	goOn = func(edges string, next int) {
		if len(edges) == len(n.Blocks)-2 {
			check(edges, connects(n, edges))
			return
		}
		for i := next; i < len(n.Edges); i++ {
			goOn(edges+string(rune('a'+i)), i+1)
		}
	}
	goOn("", 0)
}

// checkTrees looks at all sets of as many edges as a tree has, and returns the trees.
func checkTrees(t *testing.T, n impl.Net) []string {
	var trees []string
	treesBySets(n, func(edges string, tree bool) {
		if impl.IsTree(n, edges) != tree {
			t.Fatalf("IsTree(%v, %q) = %v", n, edges, !tree)
		}
		if tree {
			trees = append(trees, edges)
		}
	})
	if count := impl.CountTrees(n); count != len(trees) || count != treesByMatrix(n) {
		t.Fatalf("CountTrees(%v) = %d, not %d, %d", n, count, len(trees), treesByMatrix(n))
	}
	return trees
}

// checkHeaviest holds the tree found by weights against all trees, which stand in the order of bytes: of several heaviest ones, the
// first has the first edges.
func checkHeaviest(t *testing.T, n impl.Net, weights []int, trees []string) string {
	best, most := "", -1
	for _, tree := range trees {
		sum := 0
		for i := range len(tree) {
			sum += weights[tree[i]-'a']
		}
		if impl.TreeWeight(n, weights, tree) != sum {
			t.Fatalf("TreeWeight(%v, %v, %q) = %d, not %d", n, weights, tree, impl.TreeWeight(n, weights, tree), sum)
		}
		if sum > most {
			best, most = tree, sum
		}
	}
	if tree, ok := impl.TreeOf(n, weights); tree != best || !ok || !impl.WeightsValid(n, weights) {
		t.Fatalf("TreeOf(%v, %v) = %q, %v, not %q", n, weights, tree, ok, best)
	}
	return best
}

// checkWay goes along a way from a block to a block; where it stands in a tree, it is the only one, as none of its edges comes twice.
func checkWay(t *testing.T, n impl.Net, edges, way, from, to string) {
	here := from
	used := ""
	for i := 0; i+1 < len(way); i += 2 {
		e := impl.Edge{From: n.Blocks[len(n.Blocks)-1:], To: n.Blocks[:1]}
		if way[i+1] != 'z' {
			e = n.Edges[way[i+1]-'a']
		}
		if way[i] == '-' {
			e.From, e.To = e.To, e.From
		}
		if e.From != here || !strings.Contains(edges+"z", way[i+1:i+2]) || strings.Contains(used, way[i+1:i+2]) || way[i] != '-' && way[i] != '+' {
			t.Fatalf("the way %q of %v from %q to %q", way, n, from, to)
		}
		here = e.To
		used += way[i+1 : i+2]
	}
	if here != to || len(way)%2 != 0 {
		t.Fatalf("the way %q of %v from %q to %q", way, n, from, to)
	}
}

// checkWays looks at the ways between all blocks, which are the same in the opposite direction.
func checkWays(t *testing.T, n impl.Net, tree string) {
	for _, from := range strings.Split(n.Blocks, "") {
		for _, to := range strings.Split(n.Blocks, "") {
			way, ok := impl.WayIn(n, tree, from, to)
			if !ok || (way == "") != (from == to) {
				t.Fatalf("WayIn(%v, %q, %q, %q) = %q, %v", n, tree, from, to, way, ok)
			}
			checkWay(t, n, tree, way, from, to)
			turned := ""
			for i := 0; i < len(way); i += 2 {
				turned = map[byte]string{'+': "-", '-': "+"}[way[i]] + way[i+1:i+2] + turned
			}
			if back, _ := impl.WayIn(n, tree, to, from); back != turned {
				t.Fatalf("WayIn(%v, %q, %q, %q) = %q, but %q back", n, tree, from, to, way, back)
			}
		}
	}
}

// checkChords looks at the rounds of all chords, and swaps each chord and each edge: what comes of it is a tree or not, and the way back is the same.
func checkChords(t *testing.T, n impl.Net, tree string) {
	names, _ := impl.NamesOf(n)
	want := strings.Map(func(r rune) rune {
		if strings.ContainsRune(tree, r) {
			return -1
		}
		return r
	}, names)
	chords, ok := impl.ChordsOf(n, tree)
	if chords != want || !ok {
		t.Fatalf("ChordsOf(%v, %q) = %q, %v, not %q", n, tree, chords, ok, want)
	}
	for i, chord := range strings.Split(names, "") {
		if strings.Contains(tree, chord) {
			checkNoRound(t, n, tree, chord)
			continue
		}
		e := n.Edges[i]
		round, ok := impl.RoundOf(n, tree, chord)
		if !strings.HasPrefix(round, "+"+chord) || !ok {
			t.Fatalf("RoundOf(%v, %q, %q) = %q, %v", n, tree, chord, round, ok)
		}
		checkWay(t, n, tree, round[2:], e.To, e.From)
		for _, edge := range strings.Split(names, "") {
			checkSwap(t, n, tree, chord, edge)
		}
	}
}

func checkSwap(t *testing.T, n impl.Net, tree, chord, edge string) {
	letters := strings.Split(strings.ReplaceAll(tree, edge, "")+chord, "")
	slices.Sort(letters)
	want := strings.Join(letters, "")
	if !strings.Contains(tree, edge) || !connects(n, want) {
		want = ""
	}
	swapped, ok := impl.SwapIn(n, tree, chord, edge)
	if swapped != want || ok != (want != "") {
		t.Fatalf("SwapIn(%v, %q, %q, %q) = %q, %v, not %q", n, tree, chord, edge, swapped, ok, want)
	}
	if back, ok := impl.SwapIn(n, swapped, edge, chord); want != "" && (back != tree || !ok) {
		t.Fatalf("SwapIn(%v, %q, %q, %q) = %q, %v, not %q", n, swapped, edge, chord, back, ok, tree)
	}
}

// TestTreesOfSmallNets goes through all trees of all small nets, with all weights of 0 to 2 for few edges.
func TestTreesOfSmallNets(t *testing.T) {
	smallNets(func(n impl.Net) {
		trees := checkTrees(t, n)
		for _, tree := range trees {
			checkWays(t, n, tree)
			checkChords(t, n, tree)
		}
		weights := make([]int, len(n.Edges))
		for i := range weights {
			weights[i] = i % 3
		}
		checkHeaviest(t, n, weights, trees)
		for number := 0; len(n.Edges) <= 5 && number < 243; number++ {
			rest := number
			for i := range weights {
				weights[i] = rest % 3
				rest /= 3
			}
			checkHeaviest(t, n, weights, trees)
		}
	})
}

func TestTreesOfSomeNets(t *testing.T) {
	dice := rand.New(rand.NewSource(5))
	check := func(n impl.Net) {
		trees := checkTrees(t, n)
		for _, limit := range []int{1, 2, 4, 100} {
			weights := make([]int, len(n.Edges))
			for i := range weights {
				weights[i] = dice.Intn(limit)
			}
			tree := checkHeaviest(t, n, weights, trees)
			checkWays(t, n, tree)
			checkChords(t, n, tree)
		}
		tree := trees[dice.Intn(len(trees))]
		checkWays(t, n, tree)
		checkChords(t, n, tree)
	}
	someNets(150, false, check)
	someNets(75, true, check)
}
