package tests

import (
	"math"
	"math/rand"
	"slices"
	"strings"
	"sync"
	"testing"
	"testing/synctest"

	"loop.example/pathcounts/impl"
)

const wideNet = "ABCDEF: AB AB AB BC BC BC CD CD CD DE DE DE EF EF EF EF"

// profiled has profiles with counts that were worked out by hand: of edges, of blocks and of paths, these only if the net is acyclic.
var profiled = []struct {
	text, runs           string
	edges, blocks, paths []int
}{
	{diamond, "ac bd ac", []int{2, 1, 2, 1}, []int{3, 2, 1, 3}, []int{2, 1}},
	{diamond, "bd", []int{0, 1, 0, 1}, []int{1, 0, 1, 1}, []int{0, 1}},
	{"AB: AB", "a a a", []int{3}, []int{3, 3}, []int{3}},
	{pairNet, "b b a", []int{1, 2}, []int{3, 3}, []int{1, 2}},
	{pastNet, "d a d bc d", []int{1, 1, 1, 3}, []int{5, 1, 5}, []int{1, 1, 3}},
	{twiceNet, "ad bc ad bd ad", []int{3, 2, 1, 4}, []int{5, 5, 5}, []int{0, 3, 1, 1}},
	{sixNet, "adg befh adg acefh beg", []int{3, 2, 1, 2, 3, 2, 3, 2}, []int{5, 3, 3, 5, 2, 5}, []int{1, 0, 0, 2, 1, 1}},
	{twoTurns, "aceg aceg bdfh aceg", []int{3, 1, 3, 1, 3, 1, 3, 1}, []int{4, 3, 1, 4, 3, 1, 4}, []int{3, 0, 0, 1}},
	{chainNet, "abcdefg abcdefg", []int{2, 2, 2, 2, 2, 2, 2}, []int{2, 2, 2, 2, 2, 2, 2, 2}, []int{2}},
	// blocks in another order than edges and letters
	{"CAB: AB CA AB CA", "dc ba dc da", []int{2, 1, 2, 3}, []int{4, 4, 4}, []int{1, 0, 1, 2}},
	{"EACBD: BD AB EA CD EC", "ed cba ed ed", []int{1, 1, 1, 3, 3}, []int{4, 1, 3, 1, 4}, []int{1, 3}},
	// profiles of no runs
	{diamond, "", []int{0, 0, 0, 0}, []int{0, 0, 0, 0}, []int{0, 0}},
	{"AB: AB", "", []int{0}, []int{0, 0}, []int{0}},
	{sixNet, "", make([]int, 8), make([]int, 6), make([]int, 6)},
	{loopNet, "", []int{0, 0, 0, 0}, []int{0, 0, 0, 0}, nil},
	// nets with loops: an edge and a block count each time that they stand in a run
	{loopNet, "abcbd abd", []int{2, 3, 1, 2}, []int{2, 3, 3, 2}, nil},
	{loopNet, "abcbcbd abcbcbd", []int{2, 6, 4, 2}, []int{2, 6, 6, 2}, nil},
	{loopNet, "abd", []int{1, 1, 0, 1}, []int{1, 1, 1, 1}, nil},
	{selfNet, "ac abc abbbc", []int{3, 4, 3}, []int{3, 7, 3}, nil},
	{twoLoops, "abdf abcbdedf", []int{2, 3, 1, 3, 1, 2}, []int{2, 3, 4, 3, 2}, nil},
	{"HBA: BB HB BA", "bac bc", []int{1, 2, 2}, []int{2, 3, 2}, nil},
}

func TestLimitsOfProfiles(t *testing.T) {
	if impl.MaxRuns != 60 || impl.MaxCount != 1000000 {
		t.Errorf("MaxRuns = %d, MaxCount = %d", impl.MaxRuns, impl.MaxCount)
	}
}

// checkList holds what a function returns against a list; it expects false if there is none.
func checkList(t *testing.T, what string, n impl.Net, got []int, ok bool, want []int) {
	t.Helper()
	if !slices.Equal(got, want) || ok != (want != nil) {
		t.Fatalf("%s of %.99v = %.99v, %v, not %v", what, n, got, ok, want)
	}
}

func TestCountsOfProfiles(t *testing.T) {
	for _, c := range profiled {
		n, runs := net(c.text), strings.Fields(c.runs)
		edges, one := impl.EdgeCounts(n, runs)
		checkList(t, "EdgeCounts", n, edges, one, c.edges)
		blocks, two := impl.BlockCounts(n, runs)
		checkList(t, "BlockCounts", n, blocks, two, c.blocks)
		paths, three := impl.PathCounts(n, runs)
		checkList(t, "PathCounts", n, paths, three, c.paths)
		told, four := impl.BlocksOfEdges(n, c.edges)
		checkList(t, "BlocksOfEdges", n, told, four, c.blocks)
		if c.paths == nil {
			checkNoPathCounts(t, n, runs)
			continue
		}
		told, five := impl.EdgesOfPaths(n, c.paths)
		checkList(t, "EdgesOfPaths", n, told, five, c.edges)
	}
	// none at all is an empty profile too
	for _, runs := range [][]string{nil, {}} {
		edges, ok := impl.EdgeCounts(net(diamond), runs)
		checkList(t, "EdgeCounts", net(diamond), edges, ok, []int{0, 0, 0, 0})
	}
}

// checkNoPathCounts expects a net with ways back.
func checkNoPathCounts(t *testing.T, n impl.Net, runs []string) {
	t.Helper()
	list, ok := impl.PathCounts(n, runs)
	checkList(t, "PathCounts", n, list, ok, nil)
	for _, marks := range [][]impl.Mark{nil, make([]impl.Mark, len(n.Edges)), slices.Repeat([]impl.Mark{{Op: "fix", Count: true}}, len(n.Edges))} {
		list, ok = impl.CountedBy(n, marks, runs)
		checkList(t, "CountedBy", n, list, ok, nil)
	}
	for size := range 20 {
		list, ok = impl.EdgesOfPaths(n, make([]int, size))
		checkList(t, "EdgesOfPaths", n, list, ok, nil)
	}
}

func TestCountsOfNumbers(t *testing.T) {
	for _, c := range []struct {
		text          string
		counts, edges []int
	}{
		{diamond, []int{0, 0}, []int{0, 0, 0, 0}},
		{diamond, []int{1000000, 7}, []int{1000000, 7, 1000000, 7}},
		{"AB: AB", []int{1000000}, []int{1000000}},
		{pastNet, []int{1, 10, 100}, []int{1, 10, 10, 100}},
		{sixNet, []int{1, 10, 100, 1000, 10000, 100000}, []int{1111, 110000, 11, 1100, 110011, 10101, 101010, 10101}},
		{sixNet, []int{0, 0, 0, 0, 5, 0}, []int{0, 5, 0, 0, 5, 5, 0, 5}},
		{"EACBD: BD AB EA CD EC", []int{3, 4}, []int{3, 3, 3, 4, 4}},
		// a sum of counts may be more than a count can be
		{twiceNet, []int{1000000, 1, 1000000, 1000000}, []int{1000001, 2000000, 2000000, 1000001}},
		{wideNet, slices.Repeat([]int{1000000}, 324), append(slices.Repeat([]int{108000000}, 12), 81000000, 81000000, 81000000, 81000000)},
	} {
		list, ok := impl.EdgesOfPaths(net(c.text), c.counts)
		checkList(t, "EdgesOfPaths", net(c.text), list, ok, c.edges)
	}
}

func TestBlocksOfCounts(t *testing.T) {
	for _, c := range []struct {
		text           string
		counts, blocks []int
	}{
		// counts of all edges, not only those of runs
		{diamond, []int{1, 10, 100, 1000}, []int{11, 1, 10, 1100}},
		{diamond, []int{0, 0, 0, 5}, []int{0, 0, 0, 5}},
		{diamond, []int{5, 0, 0, 0}, []int{5, 5, 0, 0}},
		{"AB: AB", []int{7}, []int{7, 7}},
		{"HG: HG HG", []int{7, 1000000}, []int{1000007, 1000007}},
		{pastNet, []int{1, 10, 100, 1000}, []int{1011, 10, 1101}},
		{loopNet, []int{1, 10, 100, 1000}, []int{1, 101, 10, 1000}},
		{selfNet, []int{1, 10, 100}, []int{1, 11, 100}},
		{"EACBD: BD AB EA CD EC", []int{1, 10, 100, 1000, 10000}, []int{10100, 100, 10000, 10, 1001}},
		{twoLoops, []int{1, 10, 100, 1000, 10000, 100000}, []int{1, 101, 10010, 1000, 100000}},
		{"AB:" + strings.Repeat(" AB", 16), slices.Repeat([]int{1000000}, 16), []int{16000000, 16000000}},
	} {
		list, ok := impl.BlocksOfEdges(net(c.text), c.counts)
		checkList(t, "BlocksOfEdges", net(c.text), list, ok, c.blocks)
	}
}

// TestProfilesOfManyRuns has 60 runs, and 61, and runs of 60 edges.
func TestProfilesOfManyRuns(t *testing.T) {
	late, plain := readMarks("- - f0c f1c"), readMarks("r=0 r=1 -c -c")
	n := net(diamond)
	for number := range 70 {
		runs := append(slices.Repeat([]string{"ac"}, number/3), slices.Repeat([]string{"bd"}, number-number/3)...)
		if number > 60 {
			checkNoProfile(t, n, late, runs)
			continue
		}
		first, second := number/3, number-number/3
		edges, one := impl.EdgeCounts(n, runs)
		checkList(t, "EdgeCounts", n, edges, one, []int{first, second, first, second})
		blocks, two := impl.BlockCounts(n, runs)
		checkList(t, "BlockCounts", n, blocks, two, []int{number, first, second, number})
		paths, three := impl.PathCounts(n, runs)
		checkList(t, "PathCounts", n, paths, three, []int{first, second})
		counted, four := impl.CountedBy(n, late, runs)
		checkList(t, "CountedBy", n, counted, four, []int{first, second})
		if impl.WorkOf(n, late, runs) != number || impl.WorkOf(n, plain, runs) != 3*first+3*second-number {
			t.Errorf("WorkOf %d runs = %d, %d", number, impl.WorkOf(n, late, runs), impl.WorkOf(n, plain, runs))
		}
	}
	checkNoProfile(t, n, late, slices.Repeat([]string{"ac"}, 100000))
	self := net(selfNet)
	runs := slices.Repeat([]string{"a" + strings.Repeat("b", 58) + "c"}, 60)
	edges, one := impl.EdgeCounts(self, runs)
	checkList(t, "EdgeCounts", self, edges, one, []int{60, 3480, 60})
	blocks, two := impl.BlockCounts(self, runs)
	checkList(t, "BlockCounts", self, blocks, two, []int{60, 3540, 60})
	if work := impl.WorkOf(self, readMarks("r=1c r+1c r=0c"), runs); work != 7200 {
		t.Errorf("WorkOf long runs = %d", work)
	}
	checkNoProfile(t, self, readMarks("- - -"), append(runs, "ac"))
	checkNoProfile(t, self, readMarks("- - -"), []string{"ac", "a" + strings.Repeat("b", 59) + "c"})
}

// TestProfilesOfMostRuns has the most runs that a net has, 324. With more edges there would be 400 and more, but these are no nets.
func TestProfilesOfMostRuns(t *testing.T) {
	n := net(wideNet)
	all, _ := impl.AllRuns(n)
	plain, _ := impl.PlainMarks(n)
	for _, start := range []int{0, 100, 264} {
		want := make([]int, 324)
		for i := range 60 {
			want[start+i] = 1
		}
		paths, one := impl.PathCounts(n, all[start:start+60])
		checkList(t, "PathCounts", n, paths, one, want)
		counted, two := impl.CountedBy(n, plain, all[start:start+60])
		checkList(t, "CountedBy", n, counted, two, want)
		checkProfile(t, rand.New(rand.NewSource(int64(start))), n, all[start:start+60])
	}
	for _, text := range []string{"ABCDE: AB AB AB AB BC BC BC BC CD CD CD CD CD DE DE DE DE DE", "ABCDE: AB AB AB AB BC BC BC BC BC CD CD CD CD CD DE DE DE DE DE"} {
		n := net(text)
		for _, runs := range [][]string{nil, {"aeio"}, {"aein"}} {
			checkNoProfile(t, n, make([]impl.Mark, len(n.Edges)), runs)
		}
		for _, size := range []int{0, 18, 19, 400, 500} {
			checkNoCounts(t, n, make([]int, size))
		}
	}
}

func TestAddCounts(t *testing.T) {
	for _, c := range [][3][]int{
		{nil, nil, {}},
		{{}, nil, {}},
		{{0}, {0}, {0}},
		{{1, 2}, {3, 0}, {4, 2}},
		{{1, 20, 300}, {4000, 50000, 600000}, {4001, 50020, 600300}},
		// up to the limit
		{{1000000}, {0}, {1000000}},
		{{0}, {1000000}, {1000000}},
		{{500000, 999999, 1, 0}, {500000, 1, 999998, 0}, {1000000, 1000000, 999999, 0}},
		{slices.Repeat([]int{400000}, 100000), slices.Repeat([]int{600000}, 100000), slices.Repeat([]int{1000000}, 100000)},
		// above it, at each place
		{{1000000}, {1}, nil},
		{{1}, {1000000}, nil},
		{{500001}, {500000}, nil},
		{{1000000}, {1000000}, nil},
		{{1000000, 0, 0}, {1, 0, 0}, nil},
		{{0, 999999, 0}, {0, 2, 0}, nil},
		{{0, 0, 2}, {0, 0, 999999}, nil},
		// not as many
		{{1}, {1, 2}, nil},
		{{1, 2}, {1}, nil},
		{nil, {0}, nil},
		{{0}, nil, nil},
		{{1, 2}, {}, nil},
		{make([]int, 4), make([]int, 5), nil},
		{make([]int, 100000), make([]int, 99999), nil},
		// numbers that are no counts, with sums that would be some
		{{-1}, {1}, nil},
		{{1}, {-1}, nil},
		{{-1}, {1000000}, nil},
		{{1000001}, {-1}, nil},
		{{-1}, {1000001}, nil},
		{{math.MinInt}, {math.MinInt}, nil},
		{{math.MaxInt}, {math.MinInt + 1}, nil},
		{{math.MinInt + 7}, {math.MaxInt}, nil},
		{{math.MaxInt}, {math.MaxInt}, nil},
		{{1 << 62, 1 << 62}, {-1 << 62, -1 << 62}, nil},
	} {
		list, ok := impl.AddCounts(c[0], c[1])
		checkList(t, "AddCounts", impl.Net{}, list, ok, c[2])
	}
	for _, number := range otherNumbers() {
		for i := range 4 {
			list := []int{1, 2, 3, 4}
			list[i] = number
			for _, other := range [][]int{{0, 0, 0, 0}, {1, 1, 1, 1}, list} {
				sums, ok := impl.AddCounts(list, other)
				checkList(t, "AddCounts", impl.Net{}, sums, ok, nil)
				sums, ok = impl.AddCounts(other, list)
				checkList(t, "AddCounts", impl.Net{}, sums, ok, nil)
			}
		}
	}
	same := []int{3, 500000}
	list, ok := impl.AddCounts(same, same)
	checkList(t, "AddCounts", impl.Net{}, list, ok, []int{6, 1000000})
}

func TestWhatMarksCount(t *testing.T) {
	for _, c := range []struct {
		text, marks, runs string
		counts            []int // there are none where something else is counted
		work              int
	}{
		{diamond, "- - f0c f1c", "ac bd ac", []int{2, 1}, 3},
		{diamond, "r=0 r=1 -c -c", "ac bd ac", []int{2, 1}, 6},
		{diamond, "- - f0c f1c", "", []int{0, 0}, 0},
		{sixNet, "- r=4 r=0 r=3 r+1 r+-1 -c -c", "adg befh adg acefh beg", []int{1, 0, 0, 2, 1, 1}, 15},
		{pairNet, "r=0c f1c", "b b a b", []int{1, 3}, 5},
		// numbers of other runs, none, or several on a run
		{diamond, "- - f1c f0c", "ac ac bd", []int{1, 2}, 3},
		{diamond, "- - - -", "ac bd", []int{0, 0}, 0},
		{diamond, "r=7 r+9 r+1 -", "ac bd", []int{0, 0}, 3},
		{diamond, "f1c - f0c -c", "ac ac bd", []int{3, 2}, 5},
		{diamond, "r=1c r=1c - r+-1c", "bd ac bd", []int{2, 3}, 10},
		{diamond, "-c -c -c -c", "ac bd ac", []int{6, 0}, 6},
		{chainNet, "f0c -c f0c r+0c f0c r=0c -c", "abcdefg abcdefg abcdefg", []int{21}, 27},
		// something else: too great by 1, below 0, far away, ahead of or behind what is a number, on one run alone
		{diamond, "- - f2c f1c", "ac", nil, 1},
		{diamond, "- - f-1c f1c", "bd ac bd", nil, 3},
		{diamond, "- - f100000c f1c", "ac", nil, 1},
		{diamond, "- - f0c f-100000c", "ac bd", nil, 2},
		{diamond, "f0c - f2c -", "ac", nil, 2},
		{diamond, "f2c - f0c -", "ac", nil, 2},
		{diamond, "r=1 - r+1c f0c", "bd bd ac", nil, 5},
		{diamond, "r+-1c - r+1c f0c", "ac bd", nil, 5},
		{sixNet, "- r=4 r=0 r=3 r+1 r+-1 r+1c -c", "beg", nil, 4},
		{sixNet, "f0c f5c f6c - - - - -", "adg adg acefh beg", nil, 5},
		{"AB: AB", "f1c", "a", nil, 1},
		{twiceNet, "r=100000 - r+100000c f0c", "ac", nil, 3},
		// on no run of the profile
		{diamond, "- - f2c f1c", "bd bd", []int{0, 2}, 2},
		{diamond, "- - f-1c f1c", "", []int{0, 0}, 0},
		{sixNet, "f0c f5c f6c - - - - -", "adg adg beg", []int{2, 0, 0, 0, 0, 1}, 3},
	} {
		n, marks, runs := net(c.text), readMarks(c.marks), strings.Fields(c.runs)
		list, ok := impl.CountedBy(n, marks, runs)
		checkList(t, "CountedBy "+c.marks+" on "+c.runs, n, list, ok, c.counts)
		if work := impl.WorkOf(n, marks, runs); work != c.work {
			t.Errorf("WorkOf(%q, %q, %q) = %d, not %d", c.text, c.marks, c.runs, work, c.work)
		}
	}
	// one run of sixty, in each place
	for i := range 60 {
		runs := slices.Repeat([]string{"bd"}, 60)
		runs[i] = "ac"
		for marks, want := range map[string][]int{"- - f0c f1c": {1, 59}, "- - f2c f1c": nil, "- - f-1c f1c": nil, "- - - f1c": {0, 59}, "f0c - f1c f1c": {1, 60}, "f0c - f2c f1c": nil} {
			list, ok := impl.CountedBy(net(diamond), readMarks(marks), runs)
			checkList(t, "CountedBy "+marks, net(diamond), list, ok, want)
		}
	}
}

func TestWorkInLoops(t *testing.T) {
	for _, c := range []struct {
		text, marks, runs string
		work              int
	}{
		{loopNet, "r=5 r+1 r+-3c -c", "abcbd abd abcbcbd abd", 21},
		{loopNet, "- - - -", "abcbd abd", 0},
		{loopNet, "- - f9c -", "abcbd abd abcbcbd", 3},
		{selfNet, "- r+1 -c", "ac abbbbc ac", 7},
		{selfNet, "- r+1 -c", "", 0},
		{twoLoops, "r=0 -c r+100000 f-7c r+1c -", "abdf abcbdedf", 11},
	} {
		n, marks, runs := net(c.text), readMarks(c.marks), strings.Fields(c.runs)
		if work := impl.WorkOf(n, marks, runs); work != c.work {
			t.Errorf("WorkOf(%q, %q, %q) = %d, not %d", c.text, c.marks, c.runs, work, c.work)
		}
		checkNoPathCounts(t, n, runs)
	}
}

// checkNoProfile expects a net that is not valid, or a list that is no profile of it.
func checkNoProfile(t *testing.T, n impl.Net, marks []impl.Mark, runs []string) {
	t.Helper()
	list, ok := impl.EdgeCounts(n, runs)
	checkList(t, "EdgeCounts", n, list, ok, nil)
	list, ok = impl.BlockCounts(n, runs)
	checkList(t, "BlockCounts", n, list, ok, nil)
	list, ok = impl.PathCounts(n, runs)
	checkList(t, "PathCounts", n, list, ok, nil)
	checkNotCounted(t, n, marks, runs)
}

// checkNotCounted expects a list that is no profile, or marks that are not those of a net.
func checkNotCounted(t *testing.T, n impl.Net, marks []impl.Mark, runs []string) {
	t.Helper()
	list, ok := impl.CountedBy(n, marks, runs)
	checkList(t, "CountedBy", n, list, ok, nil)
	if work := impl.WorkOf(n, marks, runs); work != -1 {
		t.Fatalf("WorkOf(%.99v, %.99v, %.99q) = %d", n, marks, runs, work)
	}
}

// checkNoCounts expects a net that is not valid, or numbers that are no counts.
func checkNoCounts(t *testing.T, n impl.Net, counts []int) {
	t.Helper()
	list, ok := impl.EdgesOfPaths(n, counts)
	checkList(t, "EdgesOfPaths", n, list, ok, nil)
	list, ok = impl.BlocksOfEdges(n, counts)
	checkList(t, "BlocksOfEdges", n, list, ok, nil)
}

func TestProfilesOfInvalidNets(t *testing.T) {
	for _, n := range invalidNets() {
		for _, marks := range [][]impl.Mark{nil, make([]impl.Mark, len(n.Edges)), {{Op: "fix", Count: true}}} {
			for _, runs := range [][]string{nil, {}, {"a"}, {""}, {"ab"}, {"ac", "bd"}, {"a", "a"}} {
				checkNoProfile(t, n, marks, runs)
			}
		}
		for _, size := range []int{0, 1, 2, 3, 4, len(n.Edges), len(n.Blocks)} {
			checkNoCounts(t, n, make([]int, size))
			checkNoCounts(t, n, slices.Repeat([]int{1}, size))
		}
	}
}

func TestProfilesOfTextsThatAreNoRuns(t *testing.T) {
	good := map[string]string{loopNet: "abd", diamond: "ac"}
	for text, list := range noRuns() {
		n := net(text)
		for _, run := range list {
			checkNoProfile(t, n, make([]impl.Mark, 4), []string{run})
			for _, size := range []int{2, 5, 60} {
				for _, place := range []int{0, size / 2, size - 1} {
					runs := slices.Repeat([]string{good[text]}, size)
					runs[place] = run
					checkNoProfile(t, n, make([]impl.Mark, 4), runs)
				}
			}
		}
	}
	// in each place of sixty
	for place := range 60 {
		runs := slices.Repeat([]string{"ac", "bd"}, 30)
		runs[place] = "ad"
		checkNoProfile(t, net(diamond), make([]impl.Mark, 4), runs)
	}
	// runs of other nets
	checkNoProfile(t, net(diamond), make([]impl.Mark, 4), []string{"ac", "abd"})
	checkNoProfile(t, net(loopNet), make([]impl.Mark, 4), []string{"abd", "ac"})
	checkNoProfile(t, net(pairNet), make([]impl.Mark, 2), []string{"a", "b", "c"})
}

func TestProfilesWithMarksThatAreNotValid(t *testing.T) {
	runs := map[string][]string{diamond: {"ac", "bd"}, loopNet: {"abd", "abcbd"}}
	for text, list := range runs {
		n := net(text)
		for _, m := range otherMarks() {
			// at each edge, also at one that no run of the profile has
			for i := range 4 {
				marks := make([]impl.Mark, 4)
				marks[i] = m
				for size := range len(list) + 1 {
					checkNotCounted(t, n, marks, list[:size])
				}
			}
		}
		right := readMarks("r=0 r=1 -c -c")
		for _, marks := range [][]impl.Mark{nil, {}, right[:1], right[:3], append(slices.Clone(right), impl.Mark{}), slices.Repeat(right, 2), make([]impl.Mark, 100000)} {
			for size := range len(list) + 1 {
				checkNotCounted(t, n, marks, list[:size])
			}
		}
	}
}

// otherNumbers are no counts.
func otherNumbers() []int {
	return []int{-1, -2, -1000000, 1000001, 1000002, 1 << 31, 1 << 32, 1<<32 + 1, -1 << 32, math.MaxInt, math.MinInt}
}

func TestNumbersThatAreNoCounts(t *testing.T) {
	for _, text := range []string{diamond, loopNet, "AB: AB", pairNet, sixNet, twiceNet, pastNet} {
		n := net(text)
		all, _ := impl.AllRuns(n)
		for _, size := range []int{len(all), len(n.Edges)} {
			for i := range size {
				for _, number := range otherNumbers() {
					counts := slices.Repeat([]int{1}, size)
					counts[i] = number
					checkNoCounts(t, n, counts)
				}
			}
		}
		for size := range 20 {
			edges, one := impl.EdgesOfPaths(n, make([]int, size))
			if ok := all != nil && size == len(all); one != ok || (len(edges) != 0) != ok {
				t.Errorf("EdgesOfPaths of %q and %d counts = %v, %v", text, size, edges, one)
			}
			blocks, two := impl.BlocksOfEdges(n, make([]int, size))
			if ok := size == len(n.Edges); two != ok || (len(blocks) != 0) != ok {
				t.Errorf("BlocksOfEdges of %q and %d counts = %v, %v", text, size, blocks, two)
			}
		}
		checkNoCounts(t, n, make([]int, 100000))
	}
}

// TestMemoryOfProfiles writes to all results, their unused capacity included, and looks whether an argument or another result changes.
func TestMemoryOfProfiles(t *testing.T) {
	edges := append(net(twoTurns).Edges, impl.Edge{From: "X", To: "Y"})
	n := impl.Net{Blocks: "ABCDEFG", Edges: edges[:8]}
	runs := []string{"aceg", "bdfh", "aceg", "?", "aceg"}
	marks := append(readMarks("r=0 r=2 - - - r+1 -c -c"), impl.Mark{Op: "sub"})
	numbers := []int{5, 6, 7, 8, 9, 10, 11, 12, -7, 1 << 40}
	edgesBefore, runsBefore, marksBefore, numbersBefore := slices.Clone(edges), slices.Clone(runs), slices.Clone(marks), slices.Clone(numbers)
	for i, call := range []func() ([]int, bool){
		func() ([]int, bool) { return impl.EdgeCounts(n, runs[:3]) },
		func() ([]int, bool) { return impl.BlockCounts(n, runs[:3]) },
		func() ([]int, bool) { return impl.PathCounts(n, runs[:3]) },
		func() ([]int, bool) { return impl.EdgesOfPaths(n, numbers[:4]) },
		func() ([]int, bool) { return impl.BlocksOfEdges(n, numbers[:8]) },
		func() ([]int, bool) { return impl.AddCounts(numbers[:8], numbers[:8]) },
		func() ([]int, bool) { return impl.AddCounts(numbers[:3], numbers[3:6]) },
		func() ([]int, bool) { return impl.CountedBy(n, marks[:8], runs[:3]) },
	} {
		one, _ := call()
		two, _ := call()
		want := slices.Clone(two)
		overwrite(one, -7)
		if three, ok := call(); len(want) == 0 || !slices.Equal(two, want) || !slices.Equal(three, want) || !ok {
			t.Errorf("call %d shares memory: %v, %v", i, two, three)
		}
	}
	if work := impl.WorkOf(n, marks[:8], runs[:3]); work != 7 {
		t.Errorf("WorkOf = %d", work)
	}
	if !slices.Equal(edges, edgesBefore) || !slices.Equal(runs, runsBefore) || !slices.Equal(marks, marksBefore) || !slices.Equal(numbers, numbersBefore) {
		t.Errorf("the arguments are now %v, %v, %v and %v", edges, runs, marks, numbers)
	}
}

// TestNoCountGoesOn fails if anything that a call has begun waits for something when it has returned.
func TestNoCountGoesOn(t *testing.T) {
	synctest.Test(t, func(t *testing.T) {
		for text, run := range map[string]string{diamond: "ac", loopNet: "abcbcbd", pairNet: "b"} {
			n := net(text)
			for _, runs := range [][]string{nil, {run}, {run, "?"}, slices.Repeat([]string{run}, 60), slices.Repeat([]string{run}, 61)} {
				impl.EdgeCounts(n, runs)
				impl.BlockCounts(n, runs)
				impl.PathCounts(n, runs)
				for _, marks := range []string{"- - f0c f1c", "-c -c f7c f-1c", "r=0c f1c"} {
					impl.CountedBy(n, readMarks(marks), runs)
					impl.WorkOf(n, readMarks(marks), runs)
				}
			}
		}
	})
}

// TestCountsAtOnce calls functions again and again, several at once, with the same arguments.
func TestCountsAtOnce(t *testing.T) {
	n := net(sixNet)
	runs := slices.Repeat(strings.Fields("adg befh adg acefh beg"), 12)
	marks := readMarks("- r=4 r=0 r=3 r+1 r+-1 -c -c")
	var group sync.WaitGroup
	for range 8 {
		group.Go(func() {
			for range 50 {
				edges, one := impl.EdgeCounts(n, runs)
				blocks, two := impl.BlockCounts(n, runs)
				paths, three := impl.PathCounts(n, runs)
				counted, four := impl.CountedBy(n, marks, runs)
				right := slices.Equal(edges, []int{36, 24, 12, 24, 36, 24, 36, 24}) && slices.Equal(blocks, []int{60, 36, 36, 60, 24, 60}) && slices.Equal(paths, []int{12, 0, 0, 24, 12, 12})
				if !right || !slices.Equal(paths, counted) || !one || !two || !three || !four || impl.WorkOf(n, marks, runs) != 180 {
					t.Errorf("the counts are %v, %v, %v and %v", edges, blocks, paths, counted)
				}
			}
		})
	}
	group.Wait()
}

// ownEdgeCounts counts names in all runs, written one behind the other.
func ownEdgeCounts(n impl.Net, runs []string) []int {
	text := strings.Join(runs, "")
	list := make([]int, len(n.Edges))
	for i := range list {
		list[i] = strings.Count(text, string(rune('a'+i)))
	}
	return list
}

// ownBlockCounts counts edges by the blocks that they leave: a run leaves each block as often as it comes to it, but the exit, to which it comes once.
func ownBlockCounts(n impl.Net, runs []string) []int {
	list := make([]int, len(n.Blocks))
	for _, run := range runs {
		for i := range len(run) {
			list[strings.Index(n.Blocks, n.Edges[run[i]-'a'].From)]++
		}
	}
	list[len(list)-1] = len(runs)
	return list
}

// ownPathCounts looks for each run of a net among those of a profile.
func ownPathCounts(all, runs []string) []int {
	list := make([]int, len(all))
	for number, wanted := range all {
		for _, run := range runs {
			if run == wanted {
				list[number]++
			}
		}
	}
	return list
}

// ownCountedBy has no counts if something else is counted than numbers below a size.
func ownCountedBy(size int, marks []impl.Mark, runs []string) ([]int, int) {
	list := make([]int, size)
	work, other := 0, false
	for _, run := range runs {
		numbers, done := ownRunMarks(marks, run)
		work += done
		for _, number := range numbers {
			if number < 0 || number >= size {
				other = true
			} else {
				list[number]++
			}
		}
	}
	if other {
		return nil, work
	}
	return list, work
}

// someRuns throws a profile, in which runs also stand several times.
func someRuns(dice *rand.Rand, n impl.Net, size int) []string {
	var runs []string
	for range size {
		if len(runs) > 0 && dice.Intn(3) > 0 {
			runs = append(runs, runs[dice.Intn(len(runs))])
		} else {
			runs = append(runs, walkByChance(dice, n))
		}
	}
	return runs
}

func someCounts(dice *rand.Rand, size int) []int {
	counts := make([]int, size)
	for i := range counts {
		counts[i] = []int{0, 1, dice.Intn(100), dice.Intn(1000001), 1000000}[dice.Intn(5)]
	}
	return counts
}

// checkProfile holds counts of a profile against those of the own functions, and against each other.
func checkProfile(t *testing.T, dice *rand.Rand, n impl.Net, runs []string) {
	t.Helper()
	edges, one := impl.EdgeCounts(n, runs)
	checkList(t, "EdgeCounts", n, edges, one, ownEdgeCounts(n, runs))
	blocks, two := impl.BlockCounts(n, runs)
	checkList(t, "BlockCounts", n, blocks, two, ownBlockCounts(n, runs))
	told, three := impl.BlocksOfEdges(n, edges)
	checkList(t, "BlocksOfEdges", n, told, three, blocks)
	// parts of a profile count what all of it counts, and so do its runs in another order
	cut := dice.Intn(len(runs) + 1)
	ahead, _ := impl.EdgeCounts(n, runs[:cut])
	behind, _ := impl.EdgeCounts(n, runs[cut:])
	sums, four := impl.AddCounts(ahead, behind)
	checkList(t, "AddCounts", n, sums, four, edges)
	mixed := slices.Clone(runs)
	dice.Shuffle(len(mixed), func(i, j int) { mixed[i], mixed[j] = mixed[j], mixed[i] })
	other, five := impl.EdgeCounts(n, mixed)
	checkList(t, "EdgeCounts", n, other, five, edges)
	if hasRound(n) {
		checkNoPathCounts(t, n, runs)
		return
	}
	all, _ := impl.AllRuns(n)
	paths, six := impl.PathCounts(n, runs)
	checkList(t, "PathCounts", n, paths, six, ownPathCounts(all, runs))
	told, seven := impl.EdgesOfPaths(n, paths)
	checkList(t, "EdgesOfPaths", n, told, seven, edges)
	for number, count := range paths {
		if run, _ := impl.RunOf(n, number); count > 0 && !slices.Contains(runs, run) {
			t.Fatalf("of %v and %q: PathCounts = %v", n, runs, paths)
		}
	}
}

// checkCounted holds what marks count on a profile, and what they do, against the own function.
func checkCounted(t *testing.T, n impl.Net, marks []impl.Mark, runs []string) {
	t.Helper()
	size := max(0, impl.CountRuns(n))
	want, work := ownCountedBy(size, marks, runs)
	if size == 0 { // there are ways back
		want = nil
	}
	list, ok := impl.CountedBy(n, marks, runs)
	checkList(t, "CountedBy", n, list, ok, want)
	if done := impl.WorkOf(n, marks, runs); done != work {
		t.Fatalf("WorkOf(%v, %v, %q) = %d, not %d", n, marks, runs, done, work)
	}
}

// checkCountedByTree expects a tree of an acyclic net, whose marks count the number of each run, as those of values do.
func checkCountedByTree(t *testing.T, n impl.Net, tree string, runs []string) {
	t.Helper()
	paths, _ := impl.PathCounts(n, runs)
	plain, _ := impl.PlainMarks(n)
	made, _ := impl.TreeMarks(n, tree)
	late, _ := impl.LateMarks(n, tree)
	for _, marks := range [][]impl.Mark{plain, made, late} {
		list, ok := impl.CountedBy(n, marks, runs)
		checkList(t, "CountedBy", n, list, ok, paths)
		checkCounted(t, n, marks, runs)
	}
	if impl.WorkOf(n, late, runs) > impl.WorkOf(n, made, runs) {
		t.Fatalf("of %v, %q and %q: late marks do %d, others %d", n, tree, runs, impl.WorkOf(n, late, runs), impl.WorkOf(n, made, runs))
	}
}

// checkSumsOf holds the sums of counts that are not those of a profile against sums by the names in all runs and by the ends of edges.
func checkSumsOf(t *testing.T, dice *rand.Rand, n impl.Net) {
	t.Helper()
	counts := someCounts(dice, len(n.Edges))
	want := make([]int, len(n.Blocks))
	for block := range n.Blocks {
		for i, e := range n.Edges {
			if e.To == n.Blocks[block:block+1] || block == 0 && e.From == n.Blocks[:1] {
				want[block] += counts[i]
			}
		}
	}
	blocks, one := impl.BlocksOfEdges(n, counts)
	checkList(t, "BlocksOfEdges", n, blocks, one, want)
	all, ok := impl.AllRuns(n)
	if !ok {
		return
	}
	counts = someCounts(dice, len(all))
	want = make([]int, len(n.Edges))
	for i := range want {
		for number, run := range all {
			if strings.Contains(run, string(rune('a'+i))) {
				want[i] += counts[number]
			}
		}
	}
	edges, two := impl.EdgesOfPaths(n, counts)
	checkList(t, "EdgesOfPaths", n, edges, two, want)
}

// sizes are numbers of runs of a profile.
func sizes(dice *rand.Rand) []int {
	return []int{0, 1, 2 + dice.Intn(9), 11 + dice.Intn(49), 60}
}

func TestProfilesOfSmallNets(t *testing.T) {
	dice := rand.New(rand.NewSource(13))
	smallNets(func(n impl.Net) {
		for _, size := range []int{0, 1, dice.Intn(61)} {
			runs := someRuns(dice, n, size)
			checkProfile(t, dice, n, runs)
			for range 5 {
				checkCounted(t, n, someMarks(dice, len(n.Edges)), runs)
			}
			if hasRound(n) {
				continue
			}
			treesBySets(n, func(edges string, tree bool) {
				if tree {
					checkCountedByTree(t, n, edges, runs)
				}
			})
		}
		for range 5 {
			checkSumsOf(t, dice, n)
		}
	})
}

func TestProfilesOfSomeNets(t *testing.T) {
	dice := rand.New(rand.NewSource(14))
	someNets(100, false, func(n impl.Net) {
		for _, size := range sizes(dice) {
			runs := someRuns(dice, n, size)
			checkProfile(t, dice, n, runs)
			checkCounted(t, n, someMarks(dice, len(n.Edges)), runs)
		}
		checkSumsOf(t, dice, n)
	})
	someNets(150, true, func(n impl.Net) {
		for _, size := range sizes(dice) {
			runs := someRuns(dice, n, size)
			checkProfile(t, dice, n, runs)
			checkCounted(t, n, someMarks(dice, len(n.Edges)), runs)
			checkCountedByTree(t, n, treeByChance(dice, n), runs)
		}
		checkSumsOf(t, dice, n)
	})
}

// TestEachRunAlone tells each edge and each block of each run of a net from its number.
func TestEachRunAlone(t *testing.T) {
	someNets(60, true, func(n impl.Net) {
		all, _ := impl.AllRuns(n)
		for number, run := range all {
			counts := make([]int, len(all))
			counts[number] = 1
			edges, one := impl.EdgesOfPaths(n, counts)
			blocks, two := impl.BlocksOfEdges(n, edges)
			names, letters := "", ""
			for i, count := range edges {
				names += strings.Repeat(string(rune('a'+i)), count)
			}
			for i, count := range blocks {
				letters += strings.Repeat(n.Blocks[i:i+1], count)
			}
			path, _ := impl.BlocksOf(n, run)
			if names != sortedText(run) || sortedText(letters) != sortedText(path) || !one || !two {
				t.Fatalf("of %v and %q: the edges are %v, the blocks %v", n, run, edges, blocks)
			}
			paths, ok := impl.PathCounts(n, []string{run})
			checkList(t, "PathCounts", n, paths, ok, counts)
		}
	})
}

func sortedText(text string) string {
	list := []byte(text)
	slices.Sort(list)
	return string(list)
}
