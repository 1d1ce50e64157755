package tests

import (
	"math"
	"math/rand"
	"slices"
	"strings"
	"testing"

	"loop.example/pathcounts/impl"
)

func TestLimitsOfPaths(t *testing.T) {
	if impl.MaxPath != 60 || impl.MaxPaths != 400 {
		t.Errorf("MaxPath = %d, MaxPaths = %d", impl.MaxPath, impl.MaxPaths)
	}
}

// checkPath expects the blocks of a path that is not empty.
func checkPath(t *testing.T, text, path, blocks string, run bool) {
	t.Helper()
	n := net(text)
	if !impl.IsPath(n, path) || impl.IsRun(n, path) != run {
		t.Errorf("of %q and %q: IsPath = %v, IsRun = %v", text, path, impl.IsPath(n, path), impl.IsRun(n, path))
	}
	if s, ok := impl.BlocksOf(n, path); s != blocks || !ok {
		t.Errorf("BlocksOf(%q, %q) = %q, %v", text, path, s, ok)
	}
}

func checkNoPath(t *testing.T, n impl.Net, path string) {
	t.Helper()
	if impl.IsPath(n, path) || impl.IsRun(n, path) {
		t.Errorf("of %.99v and %.99q: IsPath = %v, IsRun = %v", n, path, impl.IsPath(n, path), impl.IsRun(n, path))
	}
	if s, ok := impl.BlocksOf(n, path); s != "" || ok {
		t.Errorf("BlocksOf(%.99v, %.99q) = %q, %v", n, path, s, ok)
	}
}

func TestPathsAndRuns(t *testing.T) {
	loop := "ABCD: AB BC CB CD"
	runs := map[string]string{"abd": "ABCD", "abcbd": "ABCBCD", "abcbcbd": "ABCBCBCD"}
	for path, blocks := range map[string]string{"a": "AB", "b": "BC", "c": "CB", "d": "CD", "ab": "ABC", "abc": "ABCB", "bcb": "BCBC", "cbd": "CBCD", "bd": "BCD"} {
		checkPath(t, loop, path, blocks, false)
	}
	for path, blocks := range runs {
		checkPath(t, loop, path, blocks, true)
	}
	self := "AHD: AH HH HH HD AD"
	for path, blocks := range map[string]string{"b": "HH", "bb": "HHH", "bcb": "HHHH", "ab": "AHH", "cbd": "HHHD", "d": "HD"} {
		checkPath(t, self, path, blocks, false)
	}
	for path, blocks := range map[string]string{"e": "AD", "ad": "AHD", "abd": "AHHD", "accbcd": "AHHHHHD"} {
		checkPath(t, self, path, blocks, true)
	}
	for _, path := range []string{
		"ad", "aa", "ba", "cc", "da", "db", "bb", "abb", "abda", "abdd", "aabd", "dba", "e", "abe", "A", "ABCD", "abD",
		"a b d", " abd", "abd ", "abd\n", "ab\x00d", "\x00", "`", "{", "\xff", "\xe1", "ab\xe4", "ä", "abä",
	} {
		checkNoPath(t, net(loop), path)
	}
}

func TestEmptyPath(t *testing.T) {
	for _, text := range validTexts {
		n := net(text)
		if s, ok := impl.BlocksOf(n, ""); s != "" || ok || !impl.IsPath(n, "") || impl.IsRun(n, "") {
			t.Errorf("of %q: IsPath = %v, IsRun = %v, BlocksOf = %q, %v", text, impl.IsPath(n, ""), impl.IsRun(n, ""), s, ok)
		}
	}
}

func TestLongPaths(t *testing.T) {
	self := "ABC: AB BB BC"
	checkPath(t, self, "a"+strings.Repeat("b", 57)+"c", "A"+strings.Repeat("B", 58)+"C", true)
	checkPath(t, self, "a"+strings.Repeat("b", 58)+"c", "A"+strings.Repeat("B", 59)+"C", true)
	checkPath(t, self, "a"+strings.Repeat("b", 59), "A"+strings.Repeat("B", 60), false)
	checkPath(t, self, strings.Repeat("b", 60), strings.Repeat("B", 61), false)
	checkNoPath(t, net(self), "a"+strings.Repeat("b", 59)+"c")
	checkNoPath(t, net(self), "a"+strings.Repeat("b", 60))
	checkNoPath(t, net(self), strings.Repeat("b", 61))
	checkNoPath(t, net(self), strings.Repeat("b", 10000000))
	loop := "ABCE: AB BC CB CE BE"
	checkPath(t, loop, "a"+strings.Repeat("bc", 29)+"e", "A"+strings.Repeat("BC", 29)+"BE", true)
	checkNoPath(t, net(loop), "a"+strings.Repeat("bc", 29)+"bd")
	checkNoPath(t, net(loop), strings.Repeat("bc", 30)+"b")
}

func TestPathsOfInvalidNets(t *testing.T) {
	for _, n := range invalidNets() {
		for _, path := range []string{"", "a", "b", "ab", "A", strings.Repeat("b", 61)} {
			checkNoPath(t, n, path)
		}
		if impl.IsAcyclic(n) {
			t.Errorf("IsAcyclic(%.99v) = true", n)
		}
		for _, block := range []string{"", "A", "B", "C", "D", "AB"} {
			if list, ok := impl.PathsFrom(n, block); len(list) != 0 || ok {
				t.Errorf("PathsFrom(%.99v, %q) = %v, %v", n, block, list, ok)
			}
		}
		runs, runsOK := impl.AllRuns(n)
		cover, coverOK := impl.CoverRuns(n)
		if len(runs) != 0 || runsOK || len(cover) != 0 || coverOK {
			t.Errorf("of %.99v: AllRuns = %v, CoverRuns = %v", n, runs, cover)
		}
		if s, ok := impl.ShortestRun(n); s != "" || ok {
			t.Errorf("ShortestRun(%.99v) = %q, %v", n, s, ok)
		}
		for _, picks := range [][]int{nil, {}, {0}, {1, 0, 2}, {-1}, make([]int, 100)} {
			if s, ok := impl.WalkRun(n, picks); s != "" || ok {
				t.Errorf("WalkRun(%.99v, %v) = %q, %v", n, picks, s, ok)
			}
		}
	}
}

// runsOf has nets with their runs, "-" if they are not acyclic, their shortest run and those that cover them.
var runsOf = []struct{ text, runs, shortest, cover string }{
	{"AB: AB", "a", "a", "a"},
	{"HG: HG HG HG", "a b c", "a", "a b c"},
	{"ABC: AB BC", "ab", "ab", "ab"},
	{"ABCD: AB AC BD CD", "ac bd", "ac", "ac bd"},
	{"ABCD: AB AC BD CD AD", "ac bd e", "e", "ac bd e"},
	// edges with the same ends, from behind to the front
	{"CAB: AB CA AB CA", "ba bc da dc", "ba", "ba bc da"},
	// an edge that is in a run already makes none
	{"ABCD: AB BC CD BD AC", "abc ad ec", "ad", "ad abc ec"},
	{"ABCD: CD BC AB", "cba", "cba", "cba"},
	{"ABCDEF: AB AC BC BD CD DE DF EF", "acefh aceg adfh adg befh beg", "adg", "adg beg aceg adfh"},
	// several shortest paths ahead of an edge and behind it
	{"ABCDE: AC AB BD CD DE DE", "ade adf bce bcf", "ade", "ade bce adf"},
	// ways back, edges from a block to itself
	{"ABC: AB BB BC", "-", "ac", "ac abc"},
	{"ABC: AB BB BB BC AC", "-", "e", "ad abd acd e"},
	{"ABCD: AB BC CB CD", "-", "abd", "abd abcbd"},
	{"ABCD: AB BC CC CB CD BD", "-", "af", "af abe abce abdf"},
	{"ABCDE: DB CD BC AB DE", "-", "dcbe", "dcbacbe"},
}

func TestRunsOfNets(t *testing.T) {
	for _, c := range runsOf {
		n := net(c.text)
		acyclic := c.runs != "-"
		list, ok := impl.AllRuns(n)
		if acyclic && strings.Join(list, " ") != c.runs || !acyclic && len(list) != 0 || ok != acyclic || impl.IsAcyclic(n) != acyclic {
			t.Errorf("AllRuns(%q) = %v, %v; IsAcyclic = %v", c.text, list, ok, impl.IsAcyclic(n))
		}
		if s, ok := impl.ShortestRun(n); s != c.shortest || !ok {
			t.Errorf("ShortestRun(%q) = %q, %v", c.text, s, ok)
		}
	}
}

func TestCoverRuns(t *testing.T) {
	for _, c := range runsOf {
		if list, ok := impl.CoverRuns(net(c.text)); strings.Join(list, " ") != c.cover || !ok {
			t.Errorf("CoverRuns(%q) = %v, %v, not %s", c.text, list, ok, c.cover)
		}
	}
}

func TestIsAcyclic(t *testing.T) {
	for text, want := range map[string]bool{
		"ABC: AB BB BC":                                         false,
		"ABCD: AB BC CB CD":                                     false,
		"ABCD: AB BC BD CD CC":                                  false,
		"ABCDEFGH: AB BC CD DE EF FG GB GH":                     false,
		"ABCDEFGH: AB BC CD DE EF FG GH":                        true,
		"ABCDEFGH: AG GF FE ED DC CB BH":                        true, // against the order of blocks
		"ABCDEFGH: AB AC AD BE CE DE EF EG FH GH":               true,
		"ABCDEFGH: AB AC AD BE CE DE EF EG FH GH FG":            true,
		"ABCDEFGH: AB AC AD BE CE DE EF EG FH GH FG GF":         false,
		"ABCDEFGH: AB AC AD BE CE DE EF EG FH GH FD":            false,
		"ABCDEFGH: AB BC CD DE EF FG GH AH AG AF AE AD AC":      true,
		"ABCDEFGH: AB BC CD DE EF FG GH AH AG AF AE AD AC GG":   false,
		"ABCDEFGH: AB BC CD DE EF FG GH AB BC CD DE EF FG GH":   true,
		"AB: AB AB AB AB AB AB AB AB AB AB AB AB AB AB AB AB":   true,
		"ABC: AB BC BB AB AB AB AB AB AB AB AB AB AB AB AB AB":  false,
		"ABCD: AB BC CB BC CB BC CB BC CB BC CB BC CB BC CB CD": false,
	} {
		if impl.IsAcyclic(net(text)) != want {
			t.Errorf("IsAcyclic(%q) = %v", text, !want)
		}
	}
}

func TestPathsFrom(t *testing.T) {
	n := net("ABCDEF: EF DF AB AC BC BD CD DE")
	for block, want := range map[string]string{
		"A": "cegb cegha cfb cfha dgb dgha", "B": "egb egha fb fha", "C": "gb gha", "D": "b ha", "E": "a", "F": "",
	} {
		if list, ok := impl.PathsFrom(n, block); len(list) == 0 || strings.Join(list, " ") != want || !ok {
			t.Errorf("PathsFrom(%q) = %q, %v", block, list, ok)
		}
	}
	for _, block := range []string{"", "G", "H", "a", "f", "AB", "EF", "FA", " ", "A ", "\x00", "\xff", "Ä"} {
		if list, ok := impl.PathsFrom(n, block); len(list) != 0 || ok {
			t.Errorf("PathsFrom(%q) = %q, %v", block, list, ok)
		}
	}
	// a way back makes all blocks have none, those that do not come to it too
	for _, text := range []string{"ABCD: AB BB BC CD", "ABCD: AB BC CB CD", "ABCD: AB AC BB BD CD"} {
		for _, block := range []string{"A", "B", "C", "D", "E"} {
			if list, ok := impl.PathsFrom(net(text), block); len(list) != 0 || ok {
				t.Errorf("PathsFrom(%q, %q) = %q, %v", text, block, list, ok)
			}
		}
	}
}

// TestMostPaths has the nets with the most paths that there are.
func TestMostPaths(t *testing.T) {
	for _, text := range []string{
		"ABCDEF: AB AB AB BC BC BC CD CD CD DE DE DE EF EF EF EF",
		"ABCDEF: EF EF EF EF DE DE DE CD CD CD BC BC BC AB AB AB",
		"ABCDEFG: AB AB AB BC BC BC CD CD CD DE DE DE EF EF FG FG",
	} {
		list, ok := impl.AllRuns(net(text))
		if len(list) != 324 || !ok || !slices.IsSorted(list) || len(slices.Compact(list)) != 324 {
			t.Errorf("AllRuns(%q) = %d, %v", text, len(list), ok)
		}
		for _, run := range list {
			if !impl.IsRun(net(text), run) {
				t.Errorf("of %q: %q is no run", text, run)
			}
		}
	}
}

func TestWalkRun(t *testing.T) {
	loop, self, wide := "ABCD: AB BC CB CD", "ABC: AB BB BC", "ABCDE: AB AC AD BE CE DE BC CB"
	for _, c := range []struct {
		text  string
		picks []int
		want  string
	}{
		{loop, nil, "abd"},
		{loop, []int{}, "abd"},
		// used up where the walk is on its way
		{loop, []int{0}, "abd"},
		{loop, []int{0, 0, 0}, "abcbd"},
		{loop, []int{0, 0, 0, 0, 0}, "abcbcbd"},
		{wide, []int{1}, "be"},
		{wide, []int{1, 1}, "bhd"},
		{wide, []int{0, 1, 1}, "aghd"},
		// left over at the exit, negative ones too
		{loop, []int{0, 0, 1}, "abd"},
		{loop, []int{0, 0, 1, 0, 0, 7}, "abd"},
		{loop, []int{0, 0, 1, -1}, "abd"},
		{loop, []int{0, 0, 1, math.MinInt, -5}, "abd"},
		{"AB: AB", []int{3, -1}, "a"},
		// what is left of a division by the number of edges
		{loop, []int{5, 4, 7}, "abd"},
		{loop, []int{5, 4, 6, 9, 1}, "abcbd"},
		{wide, []int{5, 2}, "cf"},
		{wide, []int{3, 3}, "age"},
		{wide, []int{math.MaxInt, math.MaxInt}, "bhd"},
		{"AB: AB AB AB", []int{2}, "c"},
		{"AB: AB AB AB", []int{4}, "b"},
		// 29, 30 and more edges
		{self, append([]int{0}, make([]int, 28)...), "a" + strings.Repeat("b", 28) + "c"},
		{self, append([]int{0}, make([]int, 29)...), "a" + strings.Repeat("b", 29) + "c"},
		{self, append([]int{0}, make([]int, 30)...), "a" + strings.Repeat("b", 29) + "c"},
		{self, append([]int{0}, make([]int, 1000000)...), "a" + strings.Repeat("b", 29) + "c"},
		{self, append(make([]int, 30), -1), "a" + strings.Repeat("b", 29) + "c"},
		{self, append(make([]int, 30), 1, -1), "a" + strings.Repeat("b", 29) + "c"},
		{self, append(make([]int, 29), 1, -1), "a" + strings.Repeat("b", 28) + "c"},
		{loop, make([]int, 30), "a" + strings.Repeat("bc", 14) + "bd"},
		{loop, make([]int, 29), "a" + strings.Repeat("bc", 14) + "bd"},
		{"ABCDEFGH: AB BB BC CD DE EF FG GH", slices.Repeat([]int{1}, 40), "acdefgh"},
		{"ABCDEFGH: AB BB BC CD DE EF FG GH", append([]int{0}, make([]int, 40)...), "a" + strings.Repeat("b", 29) + "cdefgh"},
		// the first one of the shortest ways out
		{"ABCDE: AE AB BB CE DE BD BC", []int{1}, "bfe"},
		{"ABCDE: AE AB BB CE DE BC BD", []int{1, 0}, "bcfd"},
	} {
		if s, ok := impl.WalkRun(net(c.text), c.picks); s != c.want || !ok {
			t.Errorf("WalkRun(%q, %.99v) = %q, %v, not %q", c.text, c.picks, s, ok, c.want)
		}
	}
}

func TestWalkRunOfNegativePicks(t *testing.T) {
	loop, self := "ABCD: AB BC CB CD", "ABC: AB BB BC"
	for _, c := range []struct {
		text  string
		picks []int
	}{
		{loop, []int{-1}}, {loop, []int{math.MinInt}}, {loop, []int{-2, 0, 1}}, {loop, []int{0, -1}}, {loop, []int{0, 0, -1}}, {loop, []int{0, 0, 0, -4, 1}},
		{"AB: AB", []int{-1}}, {"AB: AB AB", []int{-2}},
		{self, append(make([]int, 29), -1)}, {self, append(make([]int, 28), -1, 1)},
	} {
		if s, ok := impl.WalkRun(net(c.text), c.picks); s != "" || ok {
			t.Errorf("WalkRun(%q, %v) = %q, %v", c.text, c.picks, s, ok)
		}
	}
}

// TestMemoryOfPaths writes to all results, their unused capacity included, and looks whether an argument or another result changes.
func TestMemoryOfPaths(t *testing.T) {
	spare := append(net("ABCDEF: AB AC BC BD CD DE DF EF").Edges, impl.Edge{From: "X", To: "Y"})
	n := impl.Net{Blocks: "ABCDEF", Edges: spare[:8]}
	before := slices.Clone(spare)
	for i, call := range []func() ([]string, bool){
		func() ([]string, bool) { return impl.PathsFrom(n, "C") },
		func() ([]string, bool) { return impl.PathsFrom(n, "F") },
		func() ([]string, bool) { return impl.AllRuns(n) },
		func() ([]string, bool) { return impl.CoverRuns(n) },
	} {
		one, _ := call()
		two, _ := call()
		want := slices.Clone(two)
		all := one[:cap(one)]
		for j := range all {
			all[j] = "?"
		}
		if three, ok := call(); !slices.Equal(two, want) || !slices.Equal(three, want) || !ok {
			t.Errorf("call %d shares memory with another: %v, %v", i, two, three)
		}
	}
	picks := []int{4, 3, 7, 5, 9, 8}
	impl.WalkRun(n, picks[:5])
	impl.ShortestRun(n)
	impl.BlocksOf(n, "adg")
	if !slices.Equal(picks, []int{4, 3, 7, 5, 9, 8}) || !slices.Equal(spare, before) {
		t.Errorf("the arguments are now %v and %v", picks, spare)
	}
}

// smallNets calls check for all valid nets of different edges between 2 to 4 blocks.
func smallNets(check func(n impl.Net)) {
	for _, blocks := range []string{"BA", "CAB", "ABCD"} {
		var pairs []impl.Edge
		for _, from := range blocks[:len(blocks)-1] {
			for _, to := range blocks[1:] {
				pairs = append(pairs, impl.Edge{From: string(from), To: string(to)})
			}
		}
		netsOf(blocks, pairs, func(n impl.Net) {
			if looksValid(n) {
				check(n)
			}
		})
	}
}

// someNets calls check for valid nets of up to 8 blocks and 16 edges, the same ones at each call.
func someNets(count int, acyclic bool, check func(n impl.Net)) {
	dice := rand.New(rand.NewSource(int64(count)))
	for count > 0 {
		blocks := []byte("ABCDEFGH")
		dice.Shuffle(len(blocks), func(i, j int) { blocks[i], blocks[j] = blocks[j], blocks[i] })
		size := 2 + dice.Intn(7)
		n := impl.Net{Blocks: string(blocks[:size])}
		for range 1 + dice.Intn(16) {
			from, to := dice.Intn(size-1), 1+dice.Intn(size-1)
			if acyclic && from >= to {
				from = 0
			}
			n.Edges = append(n.Edges, impl.Edge{From: n.Blocks[from : from+1], To: n.Blocks[to : to+1]})
		}
		if looksValid(n) {
			check(n)
			count--
		}
	}
}

// distances tells the lengths of shortest paths between blocks, 100 if there is none, by joining paths until none gets shorter.
func distances(n impl.Net) map[[2]string]int {
	far := map[[2]string]int{}
	for _, a := range n.Blocks {
		for _, b := range n.Blocks {
			far[[2]string{string(a), string(b)}] = 100
		}
		far[[2]string{string(a), string(a)}] = 0
	}
	for range n.Blocks {
		for _, e := range n.Edges {
			for _, b := range n.Blocks {
				from, to := [2]string{e.From, string(b)}, [2]string{e.To, string(b)}
				far[from] = min(far[from], far[to]+1)
			}
		}
	}
	return far
}

// shortest goes along the first edge that comes nearer, each time.
func shortest(n impl.Net, from, to string) string {
	far := distances(n)
	path := ""
	for from != to {
		i := slices.IndexFunc(n.Edges, func(e impl.Edge) bool {
			return e.From == from && far[[2]string{e.To, to}] == far[[2]string{from, to}]-1
		})
		path += string(rune('a' + i))
		from = n.Edges[i].To
	}
	return path
}

// texts returns all texts of at most some names of edges, in the order of bytes.
func texts(edges, length int) []string {
	list := []string{""}
	if length == 0 {
		return list
	}
	for i := range edges {
		for _, rest := range texts(edges, length-1) {
			list = append(list, string(rune('a'+i))+rest)
		}
	}
	return list
}

// leads tells whether a text is a path from a block to a block.
func leads(n impl.Net, path, from, to string) bool {
	for i := range len(path) {
		e := n.Edges[path[i]-'a']
		if e.From != from {
			return false
		}
		from = e.To
	}
	return from == to
}

// hasRound tells whether one of the paths of one to eight edges comes back to its first block.
func hasRound(n impl.Net) bool {
	for _, b := range n.Blocks {
		ends := map[string]bool{string(b): true}
		for range 8 {
			next := map[string]bool{}
			for _, e := range n.Edges {
				if ends[e.From] {
					next[e.To] = true
				}
			}
			if ends = next; ends[string(b)] {
				return true
			}
		}
	}
	return false
}

// checkPathsOf compares the functions of paths with what their definitions say, for all short texts.
func checkPathsOf(t *testing.T, n impl.Net, length int) {
	entry, exit := n.Blocks[:1], n.Blocks[len(n.Blocks)-1:]
	for _, path := range texts(len(n.Edges), length) {
		blocks := ""
		if path != "" {
			blocks = n.Edges[path[0]-'a'].From
			for i := range len(path) {
				blocks += n.Edges[path[i]-'a'].To
			}
			if !leads(n, path, blocks[:1], blocks[len(blocks)-1:]) {
				blocks = ""
			}
		}
		s, ok := impl.BlocksOf(n, path)
		if s != blocks || ok != (blocks != "") || impl.IsPath(n, path) != (path == "" || ok) || impl.IsRun(n, path) != (path != "" && leads(n, path, entry, exit)) {
			t.Fatalf("of %v and %q: BlocksOf = %q, IsPath = %v, IsRun = %v", n, path, s, impl.IsPath(n, path), impl.IsRun(n, path))
		}
	}
	for _, b := range n.Blocks {
		var want []string
		if !hasRound(n) {
			for _, path := range texts(len(n.Edges), len(n.Blocks)-1) {
				if leads(n, path, string(b), exit) {
					want = append(want, path)
				}
			}
		}
		if list, ok := impl.PathsFrom(n, string(b)); !slices.Equal(list, want) || ok == hasRound(n) {
			t.Fatalf("PathsFrom(%v, %q) = %q, %v", n, b, list, ok)
		}
	}
}

// checkRunsOf compares the functions of runs with what their definitions say.
func checkRunsOf(t *testing.T, n impl.Net) {
	entry, exit := n.Blocks[:1], n.Blocks[len(n.Blocks)-1:]
	if impl.IsAcyclic(n) == hasRound(n) {
		t.Fatalf("IsAcyclic(%v) = %v", n, impl.IsAcyclic(n))
	}
	list, ok := impl.AllRuns(n)
	paths, same := impl.PathsFrom(n, entry)
	if ok == hasRound(n) || same != ok || !slices.Equal(list, paths) || !slices.IsSorted(list) || ok != (len(list) > 0) {
		t.Fatalf("AllRuns(%v) = %v, %v", n, list, ok)
	}
	if s, ok := impl.ShortestRun(n); s != shortest(n, entry, exit) || !ok {
		t.Fatalf("ShortestRun(%v) = %q, %v", n, s, ok)
	}
	var cover []string
	for i, e := range n.Edges {
		name := string(rune('a' + i))
		if !slices.ContainsFunc(cover, func(run string) bool { return strings.Contains(run, name) }) {
			cover = append(cover, shortest(n, entry, e.From)+name+shortest(n, e.To, exit))
		}
	}
	if list, ok := impl.CoverRuns(n); !slices.Equal(list, cover) || !ok {
		t.Fatalf("CoverRuns(%v) = %v, %v, not %v", n, list, ok, cover)
	}
}

func TestPathsOfSmallNets(t *testing.T) {
	smallNets(func(n impl.Net) {
		if len(n.Edges) < 7 {
			checkPathsOf(t, n, 4)
		}
		checkRunsOf(t, n)
	})
}

func TestRunsOfSomeNets(t *testing.T) {
	someNets(2000, false, func(n impl.Net) { checkRunsOf(t, n) })
	someNets(1000, true, func(n impl.Net) { checkRunsOf(t, n) })
}

// TestWalksOfSomeNets goes along picks as the definition says.
func TestWalksOfSomeNets(t *testing.T) {
	dice := rand.New(rand.NewSource(1))
	walk := func(n impl.Net, picks []int) (string, bool) {
		here, exit, path := n.Blocks[:1], n.Blocks[len(n.Blocks)-1:], ""
		for at := 0; at < len(picks) && len(path) < 30 && here != exit; at++ {
			if picks[at] < 0 {
				return "", false
			}
			out, _ := impl.OutOf(n, here)
			edge := out[picks[at]-picks[at]/len(out)*len(out)]
			path += string(rune(edge))
			here = n.Edges[edge-'a'].To
		}
		return path + shortest(n, here, exit), true
	}
	someNets(3000, false, func(n impl.Net) {
		picks := make([]int, dice.Intn(40))
		for i := range picks {
			picks[i] = dice.Intn(100)
			if dice.Intn(40) == 0 {
				picks[i] = -picks[i]
			}
		}
		want, wantOK := walk(n, picks)
		s, ok := impl.WalkRun(n, picks)
		if s != want || ok != wantOK || ok != impl.IsRun(n, s) {
			t.Fatalf("WalkRun(%v, %v) = %q, %v, not %q", n, picks, s, ok, want)
		}
	})
}
