package tests

import (
	"math"
	"math/rand"
	"regexp"
	"slices"
	"strings"
	"testing"

	"loop.example/pathcounts/impl"
)

const (
	twoSelves = "ABCD: AB BB BC CC CD"
	twoLoops  = "ABCDE: AB BC CB CD DC DE"
	tailsNet  = "ABCDE: AB BC CB BD DB DE"
	mixedNet  = "ACBD: AB BB BC CC CD CB"
	earlyNet  = "ABCD: AB BD BC CB"
	thickNet  = "ABC: AB AB BB BC BC"
)

// cuts has nets that can be cut, with results that were worked out by hand: the cut net, what its edges are, and the runs of it, from
// number 0 on, each with the letters of its kinds.
var cuts = []struct{ text, cut, kinds, runs string }{
	{diamond, diamond, "abcd", "ac:entry-exit bd:entry-exit"},
	{"AB: AB", "AB: AB", "a", "a:entry-exit"},
	{"HG: HG HG", "HG: HG HG", "ab", "a:entry-exit b:entry-exit"},
	{chainNet, chainNet, "abcdefg", "abcdefg:entry-exit"},
	{loopNet, "ABCD: AB BC CD AB CD", "abd+-", "abc:entry-exit abe:entry-tail dbc:head-exit dbe:head-tail"},
	{"ABCD: CB AB CD BC", "ABCD: AB CD BC AB CD", "bcd+-", "acb:entry-exit ace:entry-tail dcb:head-exit dce:head-tail"},
	{selfNet, "ABC: AB BC AB BC", "ac+-", "ab:entry-exit ad:entry-tail cb:head-exit cd:head-tail"},
	// several edges from blocks to themselves
	{twoSelves, "ABCD: AB BC CD AB AC BD CD", "ace++--", "abc:entry-exit abg:entry-tail af:entry-tail dbc:head-exit dbg:head-tail df:head-tail ec:head-exit eg:head-tail"},
	// several heads and tails, one head with several tails, heads and tails in the order of Blocks
	{twoLoops, "ABCDE: AB BC CD DE AB AC CE DE", "abdf++--", "abcd:entry-exit abch:entry-tail abg:entry-tail ebcd:head-exit ebch:head-tail ebg:head-tail fcd:head-exit fch:head-tail fg:head-tail"},
	{tailsNet, "ABCDE: AB BC BD DE AB CE DE", "abdf+--", "abf:entry-tail acd:entry-exit acg:entry-tail ebf:head-tail ecd:head-exit ecg:head-tail"},
	{mixedNet, "ACBD: AB BC CD AC AB CD BD", "ace++--", "abc:entry-exit abf:entry-tail ag:entry-tail dc:head-exit df:head-tail ebc:head-exit ebf:head-tail eg:head-tail"},
	// an exit that is not the last block of the way order, and a block that only edges leave which lead back
	{earlyNet, "ABCD: AB BD BC AB CD", "abc+-", "ab:entry-exit ace:entry-tail db:head-exit dce:head-tail"},
	{"ABDC: DC BD DB AB AD", "ABDC: DC DB AB AD AD BC", "acde+-", "cf:entry-tail da:entry-exit dbf:entry-tail ea:head-exit ebf:head-tail"},
	// edges with the same ends, new ones among them
	{thickNet, "ABC: AB AB BC BC AB BC", "abde+-", "ac:entry-exit ad:entry-exit af:entry-tail bc:entry-exit bd:entry-exit bf:entry-tail ec:head-exit ed:head-exit ef:head-tail"},
	// more edges that lead back than heads and tails
	{
		"ABCDEFG: AB BC CD DE EF FG DB DC DD EB EC ED FB FC FD", "ABCDEFG: AB BC CD DE EF FG AB AC AD DG EG FG", "abcdef+++---",
		"abcdef:entry-exit abcdel:entry-tail abcdk:entry-tail abcj:entry-tail gbcdef:head-exit gbcdel:head-tail gbcdk:head-tail gbcj:head-tail " +
			"hcdef:head-exit hcdel:head-tail hcdk:head-tail hcj:head-tail idef:head-exit idel:head-tail idk:head-tail ij:head-tail",
	},
}

func TestCutNets(t *testing.T) {
	for _, c := range cuts {
		n := net(c.text)
		m, one := impl.LoopNet(n)
		kinds, two := impl.KindsOf(n)
		if !sameNet(m, net(c.cut)) || !one || kinds != c.kinds || !two || !impl.CanCut(n) || !impl.IsAcyclic(m) {
			t.Errorf("of %q: LoopNet = %v, %v, KindsOf = %q, %v, CanCut = %v", c.text, m, one, kinds, two, impl.CanCut(n))
		}
		words := strings.Fields(c.runs)
		for number, word := range words {
			run, want, _ := strings.Cut(word, ":")
			want = strings.Replace(want, "-", " ", 1)
			if s, ok := impl.NumberKind(n, number); s != want || !ok {
				t.Errorf("NumberKind(%q, %d) = %q, %v, not %q", c.text, number, s, ok, want)
			}
			if s, ok := impl.RunOf(m, number); s != run || !ok {
				t.Errorf("the run of %v with the number %d is %q, not %q", m, number, s, run)
			}
		}
		for _, number := range noNumbers(len(words)) {
			checkNoKind(t, n, number)
			checkNoJoin(t, n, []int{number})
		}
	}
}

// noNumbers are numbers of no run, if there are some.
func noNumbers(runs int) []int {
	return []int{-1, -2, -runs, runs, runs + 1, 400, 1 << 32, -1 << 32, 1<<32 + 1, math.MaxInt, math.MinInt}
}

func checkNoKind(t *testing.T, n impl.Net, number int) {
	t.Helper()
	if s, ok := impl.NumberKind(n, number); s != "" || ok {
		t.Fatalf("NumberKind(%.99v, %d) = %q, %v", n, number, s, ok)
	}
}

func checkNoJoin(t *testing.T, n impl.Net, numbers []int) {
	t.Helper()
	if s, ok := impl.JoinRun(n, numbers); s != "" || ok {
		t.Fatalf("JoinRun(%.99v, %.99v) = %.99q, %v", n, numbers, s, ok)
	}
}

// checkNoParts expects a text that is no run, or a net that can't be cut.
func checkNoParts(t *testing.T, n impl.Net, run string) {
	t.Helper()
	parts, one := impl.PartRuns(n, run)
	numbers, two := impl.SplitRun(n, run)
	if count := impl.CountParts(n, run); len(parts) != 0 || one || len(numbers) != 0 || two || count != -1 {
		t.Fatalf("of %.99v and %.99q: PartRuns = %q, %v, SplitRun = %v, %v, CountParts = %d", n, run, parts, one, numbers, two, count)
	}
}

// checkSplit expects the parts and numbers of a run.
func checkSplit(t *testing.T, n impl.Net, run string, wantParts []string, wantNumbers []int) {
	t.Helper()
	parts, one := impl.PartRuns(n, run)
	numbers, two := impl.SplitRun(n, run)
	count := impl.CountParts(n, run)
	if !slices.Equal(parts, wantParts) || !one || !slices.Equal(numbers, wantNumbers) || !two || count != len(wantParts) {
		t.Fatalf("of %v and %q: PartRuns = %q, %v, SplitRun = %v, %v, CountParts = %d, not %q, %v", n, run, parts, one, numbers, two, count, wantParts, wantNumbers)
	}
	if s, ok := impl.JoinRun(n, numbers); s != run || !ok {
		t.Fatalf("JoinRun(%v, %v) = %q, %v, not %q", n, numbers, s, ok, run)
	}
}

func TestPartsOfRuns(t *testing.T) {
	for _, c := range []struct {
		text, run, parts string
		numbers          []int
	}{
		// runs that are cut nowhere
		{diamond, "ac", "ac", []int{0}},
		{diamond, "bd", "bd", []int{1}},
		{loopNet, "abd", "abc", []int{0}},
		{selfNet, "ac", "ab", []int{0}},
		{earlyNet, "ab", "ab", []int{0}},
		{"ABDC: DC BD DB AB AD", "ea", "da", []int{1}},
		// once and several times
		{loopNet, "abcbd", "abe dbc", []int{1, 2}},
		{loopNet, "abcbcbd", "abe dbe dbc", []int{1, 3, 2}},
		{loopNet, "abcbcbcbd", "abe dbe dbe dbc", []int{1, 3, 3, 2}},
		{earlyNet, "acdb", "ace db", []int{1, 2}},
		{earlyNet, "acdcdb", "ace dce db", []int{1, 3, 2}},
		{"ABDC: DC BD DB AB AD", "dba", "cf ea", []int{0, 3}},
		{"ABDC: DC BD DB AB AD", "ecba", "dbf ea", []int{2, 3}},
		{"ABDC: DC BD DB AB AD", "dbcba", "cf ebf ea", []int{0, 4, 3}},
		// edges from a block to itself: parts with new edges alone
		{selfNet, "abc", "ad cb", []int{1, 2}},
		{selfNet, "abbc", "ad cd cb", []int{1, 3, 2}},
		{twoSelves, "abce", "af dbc", []int{2, 3}},
		{twoSelves, "acde", "abg ec", []int{1, 6}},
		{twoSelves, "abcde", "af dbg ec", []int{2, 4, 6}},
		{twoSelves, "abbcdde", "af df dbg eg ec", []int{2, 5, 4, 7, 6}},
		// several heads and tails
		{twoLoops, "abdf", "abcd", []int{0}},
		{twoLoops, "abcbdf", "abg ebcd", []int{2, 3}},
		{twoLoops, "abdedf", "abch fcd", []int{1, 6}},
		{twoLoops, "abdecbdf", "abch fg ebcd", []int{1, 8, 3}},
		{twoLoops, "abcbdededf", "abg ebch fch fcd", []int{2, 4, 7, 6}},
		{tailsNet, "abcdf", "abf ecd", []int{0, 4}},
		{tailsNet, "adedf", "acg ecd", []int{2, 4}},
		{tailsNet, "abcdebcdf", "abf ecg ebf ecd", []int{0, 5, 3, 4}},
		{mixedNet, "abce", "ag ebc", []int{2, 5}},
		{mixedNet, "acde", "abf dc", []int{1, 3}},
		{mixedNet, "acfce", "abf ebc", []int{1, 5}},
		{mixedNet, "acdfbbcde", "abf df eg eg ebf dc", []int{1, 4, 7, 7, 6, 3}},
		// edges with the same ends
		{thickNet, "ad", "ac", []int{0}},
		{thickNet, "be", "bd", []int{4}},
		{thickNet, "bce", "bf ed", []int{5, 7}},
		{thickNet, "acccd", "af ef ef ec", []int{2, 8, 8, 6}},
	} {
		checkSplit(t, net(c.text), c.run, strings.Fields(c.parts), c.numbers)
	}
}

func TestNumbersThatMakeNoRun(t *testing.T) {
	for _, c := range []struct {
		text  string
		lists [][]int
	}{
		{diamond, [][]int{nil, {}, {0, 0}, {0, 1}, {1, 0}, {1, 1}, {0, -1}, {-1, 0}, {0, 2}, {2, 0}, {1, 1, 1}}},
		// the first one begins at a head, the last one ends at a tail
		{loopNet, [][]int{nil, {1}, {2}, {3}, {3, 2}, {2, 0}, {1, 3}, {3, 3}, {1, 3, 3}, {3, 3, 2}}},
		// one of those between begins at the entry or ends at the exit
		{loopNet, [][]int{{0, 0}, {0, 1}, {0, 2}, {0, 3}, {1, 0}, {1, 1}, {1, 1, 2}, {1, 0, 2}, {1, 2, 2}, {1, 2, 0}, {1, 2, 3}, {1, 2, 1, 2}, {0, 3, 2}, {1, 3, 1, 2}, {1, 3, 2, 2}}},
		// a number that is none, in each place
		{loopNet, [][]int{{4}, {-1}, {4, 2}, {-1, 2}, {1, 4}, {1, -1}, {1, 4, 2}, {1, -1, 2}, {1, 2, 4}, {1, 2, -1}, {0, 4}, {0, -1}, {1, 3, math.MaxInt}, {math.MinInt, 3, 2}}},
		// numbers that fit together and lead nowhere: of the tails C and D, one leads to the head B, the other to the head C
		{twoLoops, [][]int{{1, 3}, {2, 6}, {1, 4, 6}, {2, 7, 6}, {1, 5, 3}, {2, 8, 3}, {1, 7, 3}, {1, 8, 6}, {2, 4, 3}, {2, 5, 6}, {1, 6, 3}}},
		// only an edge that does not lead back goes from the tail B to the head C, and none from the tail C to the head B
		{twoSelves, [][]int{{2, 6}, {1, 3}, {2, 7, 6}, {2, 5, 6}, {1, 4, 6}, {1, 5, 3}, {1, 7, 3}, {2, 4, 3}}},
		{mixedNet, [][]int{{2, 3}, {2, 4, 3}, {2, 7, 3}, {1, 7, 3}}},
	} {
		for _, numbers := range c.lists {
			checkNoJoin(t, net(c.text), numbers)
		}
	}
}

// TestCutsOfLongRuns has runs of up to 60 edges, and walks that get too long at the first, the last or another edge of a part.
func TestCutsOfLongRuns(t *testing.T) {
	self, loop := net(selfNet), net(loopNet)
	for turns := 1; turns < 70; turns++ {
		run := "a" + strings.Repeat("b", turns) + "c"
		numbers := slices.Concat([]int{1}, slices.Repeat([]int{3}, turns-1), []int{2})
		parts := slices.Concat([]string{"ad"}, slices.Repeat([]string{"cd"}, turns-1), []string{"cb"})
		if turns <= 58 {
			checkSplit(t, self, run, parts, numbers)
		} else {
			checkNoParts(t, self, run)
			checkNoJoin(t, self, numbers)
		}
		checkNoJoin(t, self, numbers[:turns])
		checkNoJoin(t, self, append(numbers, 2))
		run = "ab" + strings.Repeat("cb", turns) + "d"
		parts = slices.Concat([]string{"abe"}, slices.Repeat([]string{"dbe"}, turns-1), []string{"dbc"})
		if turns <= 28 {
			checkSplit(t, loop, run, parts, numbers)
		} else {
			checkNoParts(t, loop, run)
			checkNoJoin(t, loop, numbers)
		}
	}
	// 7 edges, and 6 or 1 more for each turn
	for text, more := range map[string]int{"ABCDEFGH: AB BC CD DE EF FG GH GB": 6, "ABCDEFGH: AB BC CD DE EF FG GH BB": 1} {
		for turns := 1; turns < 70; turns++ {
			numbers := slices.Concat([]int{1}, slices.Repeat([]int{3}, turns-1), []int{2})
			s, ok := impl.JoinRun(net(text), numbers)
			if length := 7 + turns*more; ok != (length <= 60) || ok && len(s) != length || !ok && s != "" || ok != impl.IsRun(net(text), s) {
				t.Errorf("JoinRun(%q, %v) = %q, %v", text, numbers, s, ok)
			}
		}
	}
	for _, length := range []int{1000, 1000000} {
		for _, number := range []int{0, 1, 2, 3} {
			checkNoJoin(t, self, append([]int{1}, slices.Repeat([]int{number}, length)...))
			checkNoJoin(t, net(chainNet), append([]int{0}, slices.Repeat([]int{number}, length)...))
		}
	}
}

// checkNoCut expects a net that is not valid or can't be cut.
func checkNoCut(t *testing.T, n impl.Net) {
	t.Helper()
	m, one := impl.LoopNet(n)
	kinds, two := impl.KindsOf(n)
	if !isZero(m) || one || kinds != "" || two || impl.CanCut(n) {
		t.Fatalf("of %.99v: LoopNet = %v, %v, KindsOf = %q, %v, CanCut = %v", n, m, one, kinds, two, impl.CanCut(n))
	}
	for _, run := range []string{"", "a", "b", "ab", "ac", "bd", "abd", "abe", "abc", "abcbd", "A", strings.Repeat("b", 61)} {
		checkNoParts(t, n, run)
	}
	for _, number := range []int{-1, 0, 1, 2, 3, math.MaxInt, math.MinInt} {
		checkNoKind(t, n, number)
		checkNoJoin(t, n, []int{number})
		checkNoJoin(t, n, []int{1, number})
	}
	checkNoJoin(t, n, nil)
	checkNoJoin(t, n, []int{1, 3, 2})
}

func TestCutsOfInvalidNets(t *testing.T) {
	for _, n := range invalidNets() {
		checkNoCut(t, n)
	}
}

func TestNetsThatCannotBeCut(t *testing.T) {
	for _, text := range []string{
		// edges that lead back with the same ends: side by side, apart, three of them, beside others, from a block to itself
		"ABCD: AB BC CB CB CD",
		"ABCD: CB AB BC CD CB",
		"ABCD: CB AB BC CB CD CB",
		"ABC: AB BB BB BC",
		"ABC: BB AB BC BB",
		"ABCD: AB BB BC CB CC CD CC",
		"ABCDE: AB BC CB CD DB DE CB",
		"ABCDEFG: AB BC CD DE EF FG FB EB DB FC FB",
		// 17 edges of the cut net: one edge leads back, or several, with as many heads or tails
		"ABC:" + strings.Repeat(" AB", 8) + strings.Repeat(" BC", 7) + " BB",
		"ABC: BB" + strings.Repeat(" AB", 7) + strings.Repeat(" BC", 8),
		"ABCD: AB AB AB AB BC BC BC BC BC CD CD CD CD CD CB BC",
		"ABCDE: AB AB AB AB BC BC BC CD CD CD DE DE DE CB DB DC",
		"ABCDE: AB AB AB AB BC BC BC CD CD CD DE DE DE DB EE",
		// 18 and more, up to 22
		"ABCD: AB AB AB AB BC BC BC BC CD CD CD CD AD AD BB CC",
		"ABCDEFGH: AB BC CD DE EF FG GH AH AH AH BB CC DD EE FF GG",
		"ABCDEFGH: AB AC AD BE CE DE EF EG FH GH FF GF EE BC BB CC",
	} {
		checkNoCut(t, net(text))
	}
}

// TestCutNetsWithMostEdges has cut nets of 15 and 16 edges, and one with many edges that lead back.
func TestCutNetsWithMostEdges(t *testing.T) {
	for text, want := range map[string]string{
		"ABC:" + strings.Repeat(" AB", 7) + strings.Repeat(" BC", 7) + " BB": "abcdefghijklmn+-",
		"ABC: BB" + strings.Repeat(" AB", 7) + strings.Repeat(" BC", 6):      "bcdefghijklmn+-",
		"ABC:" + strings.Repeat(" AB", 8) + strings.Repeat(" BC", 8):         "abcdefghijklmnop",
		"ABCDE: AB AB AB BC BC BC CD CD CD DE DE DE CB DB DC CC":             "abcdefghijkl++--",
		"ABCDEFG: AB BC CD DE EF FG FF FE FD FC FB EE ED EC EB DD":           "abcdef+++++---",
		"ABCDEFG: BB AB CC BC DD CD EE DE FF EF FG":                          "bdfhjk+++++-----",
	} {
		n := net(text)
		m, one := impl.LoopNet(n)
		if kinds, two := impl.KindsOf(n); kinds != want || !one || !two || len(m.Edges) != len(want) || !impl.CanCut(n) {
			t.Errorf("of %q: LoopNet = %v, %v, KindsOf = %q, %v", text, m, one, kinds, two)
		}
		checkCutting(t, n)
	}
}

// noRuns has, for some nets, texts that are no runs of them.
func noRuns() map[string][]string {
	return map[string][]string{
		loopNet: append(oddNames(),
			"b", "c", "d", "abcb", "bd", "bcbd", "cbd", "ad", "abdd", "abda", "abcd", "abbd", "abcbdd", "abdabd", "a b d", " abd", "abd ", "abd\n", "abd\x00", "ABCD", "abD", "abe", "dbc", "abe dbc", "0", "1 2",
		),
		diamond: {"", "ab", "ad", "bc", "acc", "acbd", "abcd", "ca"},
	}
}

func TestPartsOfOtherTexts(t *testing.T) {
	for text, runs := range noRuns() {
		for _, run := range runs {
			checkNoParts(t, net(text), run)
		}
	}
}

// TestMemoryOfCuts writes to all results, their unused capacity included, and looks whether an argument or another result changes.
func TestMemoryOfCuts(t *testing.T) {
	edges := append(net(mixedNet).Edges, impl.Edge{From: "X", To: "Y"})
	n := impl.Net{Blocks: "ACBD", Edges: edges[:6]}
	edgesBefore := slices.Clone(edges)
	one, _ := impl.LoopNet(n)
	two, _ := impl.LoopNet(n)
	overwrite(one.Edges, impl.Edge{From: "?", To: "?"})
	if three, ok := impl.LoopNet(n); !sameNet(two, net("ACBD: AB BC CD AC AB CD BD")) || !sameNet(two, three) || !ok {
		t.Errorf("LoopNet shares memory: %v, %v", two, three)
	}
	plain := impl.Net{Blocks: "ABCD", Edges: append(make([]impl.Edge, 0, 9), net(diamond).Edges...)}
	same, _ := impl.LoopNet(plain)
	overwrite(same.Edges, impl.Edge{From: "?", To: "?"})
	if !sameNet(plain, net(diamond)) {
		t.Errorf("LoopNet shares memory with its argument: %v", plain)
	}
	parts, _ := impl.PartRuns(n, "acdfbbcde")
	others, _ := impl.PartRuns(n, "acdfbbcde")
	overwrite(parts, "?")
	if again, ok := impl.PartRuns(n, "acdfbbcde"); !slices.Equal(others, strings.Fields("abf df eg eg ebf dc")) || !slices.Equal(others, again) || !ok {
		t.Errorf("PartRuns shares memory: %q, %q", others, again)
	}
	numbers, _ := impl.SplitRun(n, "acdfbbcde")
	more, _ := impl.SplitRun(n, "acdfbbcde")
	overwrite(numbers, -7)
	if again, ok := impl.SplitRun(n, "acdfbbcde"); !slices.Equal(more, []int{1, 4, 7, 7, 6, 3}) || !slices.Equal(more, again) || !ok {
		t.Errorf("SplitRun shares memory: %v, %v", more, again)
	}
	list := []int{1, 4, 7, 7, 6, 3, -1, 99}
	before := slices.Clone(list)
	if s, ok := impl.JoinRun(n, list[:6]); s != "acdfbbcde" || !ok {
		t.Errorf("JoinRun = %q, %v", s, ok)
	}
	impl.JoinRun(n, list[:7])
	impl.KindsOf(n)
	impl.CanCut(n)
	impl.NumberKind(n, 3)
	impl.CountParts(n, "acdfbbcde")
	if !slices.Equal(edges, edgesBefore) || !slices.Equal(list, before) {
		t.Errorf("the arguments are now %v and %v", edges, list)
	}
}

// overwrite writes to a list and to its unused capacity.
func overwrite[T any](list []T, value T) {
	all := list[:cap(list)]
	for i := range all {
		all[i] = value
	}
}

// A knife is a cut net, made by the words of the document.
type knife struct {
	net, cut           impl.Net
	kept, heads, tails string
	runs               []string
}

// ownCut goes by an own way order; it tells whether the net can be cut.
func ownCut(n impl.Net) (knife, bool) {
	order := ordered(n)
	k := knife{net: n}
	text := n.Blocks + ":"
	back := map[string]int{}
	heads, tails := map[rune]bool{}, map[rune]bool{}
	twice := false
	for i, e := range n.Edges {
		ends := e.From + e.To
		if strings.Index(order, e.From) < strings.Index(order, e.To) {
			k.kept += string(rune('a' + i))
			text += " " + ends
			continue
		}
		back[ends]++
		twice = twice || back[ends] > 1
		heads[rune(e.To[0])], tails[rune(e.From[0])] = true, true
	}
	for _, b := range n.Blocks {
		if heads[b] {
			k.heads += string(b)
			text += " " + n.Blocks[:1] + string(b)
		}
	}
	for _, b := range n.Blocks {
		if tails[b] {
			k.tails += string(b)
			text += " " + string(b) + n.Blocks[len(n.Blocks)-1:]
		}
	}
	k.cut = net(text)
	if twice || !looksValid(k.cut) {
		return knife{}, false
	}
	k.runs, _ = impl.AllRuns(k.cut)
	return k, true
}

// split also cuts texts that are too long to be runs.
func (k knife) split(run string) []string {
	name := func(place int) string { return string(rune('a' + place)) }
	parts := []string{""}
	for i := range len(run) {
		last := len(parts) - 1
		if place := strings.IndexByte(k.kept, run[i]); place >= 0 {
			parts[last] += name(place)
			continue
		}
		e := k.net.Edges[run[i]-'a']
		parts[last] += name(len(k.kept) + len(k.heads) + strings.Index(k.tails, e.From))
		parts = append(parts, name(len(k.kept)+strings.Index(k.heads, e.To)))
	}
	return parts
}

// numbers are places among all runs of the cut net.
func (k knife) numbers(parts []string) []int {
	var list []int
	for _, part := range parts {
		list = append(list, slices.Index(k.runs, part))
	}
	return list
}

var gap = regexp.MustCompile(`-[A-H]\+[A-H]`)

// join writes all parts one behind the other, with `+` and a head or `-` and a tail for new edges, and puts edges that lead back in.
func (k knife) join(numbers []int) (string, bool) {
	text := ""
	for _, number := range numbers {
		if number < 0 || number >= len(k.runs) || len(text) > 300 {
			return "", false
		}
		for _, name := range k.runs[number] {
			place := int(name - 'a')
			switch inner := place - len(k.kept); {
			case inner < 0:
				text += k.kept[place : place+1]
			case inner < len(k.heads):
				text += "+" + k.heads[inner:inner+1]
			default:
				text += "-" + k.tails[inner-len(k.heads):][:1]
			}
		}
	}
	text = gap.ReplaceAllStringFunc(text, func(between string) string {
		for i, e := range k.net.Edges {
			name := string(rune('a' + i))
			if e.From == between[1:2] && e.To == between[3:] && !strings.Contains(k.kept, name) {
				return name
			}
		}
		return "?"
	})
	if len(text) == 0 || len(text) > 60 || strings.ContainsAny(text, "?+-") || !leads(k.net, text, k.net.Blocks[:1], k.net.Blocks[len(k.net.Blocks)-1:]) {
		return "", false
	}
	return text, true
}

// checkJoin holds JoinRun against a separate join; what is joined has to be split into the same numbers.
func (k knife) checkJoin(t *testing.T, numbers []int) {
	t.Helper()
	want, wantOK := k.join(numbers)
	s, ok := impl.JoinRun(k.net, numbers)
	if s != want || ok != wantOK {
		t.Fatalf("JoinRun(%v, %v) = %q, %v, not %q, %v", k.net, numbers, s, ok, want, wantOK)
	}
	if back, _ := impl.SplitRun(k.net, s); ok && !slices.Equal(back, numbers) {
		t.Fatalf("of %v: JoinRun(%v) = %q, whose numbers are %v", k.net, numbers, s, back)
	}
}

// checkCutting compares the cut net and what is told of its edges and runs with what their definitions say; if there is none, nothing is told.
func checkCutting(t *testing.T, n impl.Net) (knife, bool) {
	t.Helper()
	k, can := ownCut(n)
	if !can {
		checkNoCut(t, n)
		return k, false
	}
	want := k.kept + strings.Repeat("+", len(k.heads)) + strings.Repeat("-", len(k.tails))
	m, one := impl.LoopNet(n)
	kinds, two := impl.KindsOf(n)
	if !sameNet(m, k.cut) || !one || kinds != want || !two || !impl.CanCut(n) || !impl.IsAcyclic(m) {
		t.Fatalf("of %v: LoopNet = %v, %v, KindsOf = %q, %v, CanCut = %v, not %v, %q", n, m, one, kinds, two, impl.CanCut(n), k.cut, want)
	}
	begins, ends := map[string]int{}, map[string]int{}
	for number, run := range k.runs {
		begin, end := "entry", "exit"
		if place := int(run[0] - 'a'); place >= len(k.kept) {
			begin = "head"
		}
		if place := int(run[len(run)-1] - 'a'); place >= len(k.kept) {
			end = "tail"
		}
		if s, ok := impl.NumberKind(n, number); s != begin+" "+end || !ok {
			t.Fatalf("NumberKind(%v, %d) of %q = %q, %v", n, number, run, s, ok)
		}
		begins[begin]++
		ends[end]++
	}
	through := map[rune]int{}
	for i, kind := range kinds {
		through[kind] += impl.CountThrough(m, string(rune('a'+i)))
	}
	if begins["head"] != through['+'] || ends["tail"] != through['-'] || begins["head"]+begins["entry"] != impl.CountRuns(m) {
		t.Fatalf("of %v: %v and %v, with %v edges on %d runs", n, begins, ends, through, impl.CountRuns(m))
	}
	for _, number := range noNumbers(len(k.runs)) {
		checkNoKindBut(t, n, number, len(k.runs))
	}
	return k, true
}

// checkNoKindBut leaves out the numbers that there are.
func checkNoKindBut(t *testing.T, n impl.Net, number, runs int) {
	t.Helper()
	if number < 0 || number >= runs {
		checkNoKind(t, n, number)
		checkNoJoin(t, n, []int{number})
	}
}

// checkCutRun compares the parts and numbers of a run with what their definitions say; they have to join to the run again.
func (k knife) checkCutRun(t *testing.T, run string) []int {
	t.Helper()
	parts := k.split(run)
	numbers := k.numbers(parts)
	checkSplit(t, k.net, run, parts, numbers)
	cut, _ := impl.CutRun(k.net, run)
	if len(cut) != len(parts) || slices.Contains(numbers, -1) {
		t.Fatalf("of %v and %q: CutRun = %q, the parts are %q, with the numbers %v", k.net, run, cut, parts, numbers)
	}
	for i, number := range numbers {
		want := "head tail"
		if i == 0 {
			want = strings.Replace(want, "head", "entry", 1)
		}
		if i == len(numbers)-1 {
			want = strings.Replace(want, "tail", "exit", 1)
		}
		if s, ok := impl.NumberKind(k.net, number); s != want || !ok {
			t.Fatalf("of %v and %q: NumberKind of %d is %q, %v, not %q", k.net, run, number, s, ok, want)
		}
	}
	return numbers
}

// runsWithTurns returns all runs in which at most some edges lead back.
func (k knife) runsWithTurns(turns int) []string {
	var list []string
	exit := k.net.Blocks[len(k.net.Blocks)-1:]
	var goOn func(path, block string, turns int)
	goOn = func(path, block string, turns int) {
		if block == exit {
			list = append(list, path)
		}
		for i, e := range k.net.Edges {
			name := string(rune('a' + i))
			if e.From != block {
				continue
			}
			if strings.Contains(k.kept, name) {
				goOn(path+name, e.To, turns)
			} else if turns > 0 {
				goOn(path+name, e.To, turns-1)
			}
		}
	}
	goOn("", k.net.Blocks[:1], turns)
	return list
}

// TestCutsOfSmallNets asks for all runs in which at most two edges lead back, and for all lists of at most two numbers, and some of three:
// what runs have these numbers is known of all of them.
func TestCutsOfSmallNets(t *testing.T) {
	dice := rand.New(rand.NewSource(11))
	smallNets(func(n impl.Net) {
		k, can := checkCutting(t, n)
		if !can {
			t.Fatalf("%v can't be cut", n)
		}
		joined := map[[3]int]string{}
		key := func(numbers ...int) [3]int {
			list := [3]int{-9, -9, -9}
			copy(list[:], numbers)
			return list
		}
		runs := k.runsWithTurns(2)
		for _, run := range runs {
			joined[key(k.checkCutRun(t, run)...)] = run
		}
		if len(joined) != len(runs) {
			t.Fatalf("%d runs of %v have %d lists of numbers", len(runs), n, len(joined))
		}
		check := func(numbers ...int) {
			want, can := joined[key(numbers...)]
			if s, ok := impl.JoinRun(n, numbers); s != want || ok != can {
				t.Fatalf("JoinRun(%v, %v) = %q, %v, not %q", n, numbers, s, ok, want)
			}
		}
		check()
		for a := -1; a <= len(k.runs); a++ {
			check(a)
			for b := -1; b <= len(k.runs); b++ {
				check(a, b)
			}
		}
		for range 100 {
			check(dice.Intn(len(k.runs)), dice.Intn(len(k.runs)), dice.Intn(len(k.runs)))
		}
	})
}

// walkOn goes along edges by chance, up to a length, and then along a shortest path; it may get too long for a run.
func walkOn(dice *rand.Rand, n impl.Net, length int) string {
	path, block := "", n.Blocks[:1]
	exit := n.Blocks[len(n.Blocks)-1:]
	for len(path) < length && block != exit {
		i := dice.Intn(len(n.Edges))
		if e := n.Edges[i]; e.From == block && (e.To != exit || dice.Intn(8) == 0) {
			path, block = path+string(rune('a'+i)), e.To
		} else if e.From == block && dice.Intn(20) == 0 {
			break // there may be no other edges than those to the exit
		}
	}
	return path + shortest(n, block, exit)
}

// checkWalks looks at walks that are runs, at numbers near theirs, and at walks that are too long.
func (k knife) checkWalks(t *testing.T, dice *rand.Rand, number int) {
	t.Helper()
	for range number {
		run := walkOn(dice, k.net, dice.Intn(62))
		if len(run) > 60 {
			checkNoParts(t, k.net, run)
			k.checkJoin(t, k.numbers(k.split(run)))
			checkNoJoin(t, k.net, k.numbers(k.split(run)))
			continue
		}
		numbers := k.checkCutRun(t, run)
		at := dice.Intn(len(numbers))
		k.checkJoin(t, numbers[:at])
		k.checkJoin(t, numbers[at:])
		k.checkJoin(t, slices.Insert(slices.Clone(numbers), at, dice.Intn(len(k.runs))))
		k.checkJoin(t, slices.Delete(slices.Clone(numbers), at, at+1))
		k.checkJoin(t, append(slices.Clone(numbers), numbers[at:]...))
		for range 5 {
			other := slices.Clone(numbers)
			other[at] = dice.Intn(len(k.runs)+2) - 1
			k.checkJoin(t, other)
		}
	}
}

// TestCutsOfLargerNets looks for nets with loops that can be cut, and for some that can't, which are more.
func TestCutsOfLargerNets(t *testing.T) {
	dice := rand.New(rand.NewSource(12))
	cut, whole := 0, 0
	someNets(1500, false, func(n impl.Net) {
		if _, can := ownCut(n); !can && whole == 150 {
			return
		}
		k, can := checkCutting(t, n)
		if !can {
			whole++
			return
		}
		if hasRound(n) {
			cut++
		}
		k.checkWalks(t, dice, 3)
	})
	someNets(200, true, func(n impl.Net) {
		k, can := checkCutting(t, n)
		if !can || !sameNet(k.cut, n) {
			t.Fatalf("the cut net of %v is %v", n, k.cut)
		}
		k.checkWalks(t, dice, 1)
	})
	if cut < 200 || whole < 150 {
		t.Errorf("of the nets with loops, %d can be cut and %d can't", cut, whole)
	}
}
