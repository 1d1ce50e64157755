package tests

import (
	"math/rand"
	"slices"
	"strings"
	"testing"

	"loop.example/pathcounts/impl"
)

// shapeOf has the functions that tell something of a net alone, in the order of the fields of the cases below.
var shapeOf = []struct {
	name string
	call func(impl.Net) (string, bool)
}{
	{"OrderOf", impl.OrderOf}, {"BackEdges", impl.BackEdges}, {"HeadsOf", impl.HeadsOf}, {"TailsOf", impl.TailsOf}, {"SplitsOf", impl.SplitsOf}, {"MergesOf", impl.MergesOf},
}

// TestShapeOfNets has results that were worked out by hand: order, edges that lead back, heads, tails, splits, merges.
func TestShapeOfNets(t *testing.T) {
	for text, want := range map[string][6]string{
		// no ways back
		"AB: AB":                             {"AB", "", "", "", "", ""},
		"HG: HG HG":                          {"HG", "", "", "", "H", "G"},
		"CAB: CA AB":                         {"CAB", "", "", "", "", ""},
		"ABCD: AB AC BD CD":                  {"ABCD", "", "", "", "A", "D"},
		"ABCDEF: AB AC BC BD CD DE DF EF":    {"ABCDEF", "", "", "", "ABD", "CDF"},
		"ABCDEFGH: AB BC CD DE EF FG GH":     {"ABCDEFGH", "", "", "", "", ""},
		"AGFEDCBH: AB BC CD DE EF FG GH":     {"ABCDEFGH", "", "", "", "", ""},
		"ABCDEFGH: GH FG EF DE CD BC AB":     {"ABCDEFGH", "", "", "", "", ""},
		"ABCDEFGH: AG GF FE ED DC CB BH":     {"AGFEDCBH", "", "", "", "", ""},
		"ABCD: AB AB AC BD CD CD":            {"ABCD", "", "", "", "AC", "BD"},
		"ABCDE: AB BE AC CE AD DE":           {"ABCDE", "", "", "", "A", "E"},
		"ABCDEF: AB AC BD CE BE CD DF EF AF": {"ABCEDF", "", "", "", "ABC", "DEF"},
		// the last edge first: other edges order, other way order
		"ABCD: AC AB BD CD":        {"ACBD", "", "", "", "A", "D"},
		"ABCDE: AD AC AB BE CE DE": {"ADCBE", "", "", "", "A", "E"},
		"ABCD: AB AC BC CB BD":     {"ACBD", "c", "C", "B", "AB", "BC"},
		"ABCD: AC AB BC CB BD":     {"ABCD", "d", "B", "C", "AB", "BC"},
		"ABCD: AB AC CB BC BD":     {"ACBD", "d", "C", "B", "AB", "BC"},
		"ABCDE: AB AC BD DC CB CE": {"ACBDE", "d", "C", "D", "AC", "BC"},
		"ABCDE: AC AB BD DC CB CE": {"ABDCE", "e", "B", "C", "AC", "BC"},
		// ways back, and an exit that is not the last one
		"ABCD: AB BC CB CD":    {"ABCD", "c", "B", "C", "C", "B"},
		"ABCD: AB BD BC CB":    {"ABDC", "d", "B", "C", "B", "B"},
		"ABCD: AB BC BD CB":    {"ABCD", "d", "B", "C", "B", "B"},
		"ABDC: DC BD DB AB AD": {"ADCB", "b", "D", "B", "AD", "BD"},
		// edges from a block to itself
		"ABC: AB BB BC":              {"ABC", "b", "B", "B", "B", "B"},
		"ABC: BB AB BC":              {"ABC", "a", "B", "B", "B", "B"},
		"ABC: AB BC BB":              {"ABC", "c", "B", "B", "B", "B"},
		"ABCD: AB BB BC CC CD":       {"ABCD", "bd", "BC", "BC", "BC", "BC"},
		"ACBD: AB BB BC CC CD":       {"ABCD", "bd", "CB", "CB", "CB", "CB"},
		"ABC: AB BB BC BB BB":        {"ABC", "bde", "B", "B", "B", "B"},
		"ABCD: AB AC BB BD CC CD CB": {"ACBD", "ce", "BC", "BC", "ABC", "BCD"},
		"ABCDEFGH: AB BC CD DE EF FG GH BB CC DD EE FF GG": {"ABCDEFGH", "hijklm", "BCDEFG", "BCDEFG", "BCDEFG", "BCDEFG"},
		// several edges with the same ends
		"ABCD: AB BC CB CB CD":                                 {"ABCD", "cd", "B", "C", "C", "B"},
		"ABCD: AB BC BC CB CD CB":                              {"ABCD", "df", "B", "C", "BC", "BC"},
		"AB: AB AB AB AB AB AB AB AB AB AB AB AB AB AB AB AB":  {"AB", "", "", "", "A", "B"},
		"ABC: AB BB BB BB BB BB BB BB BB BB BB BB BB BB BB BC": {"ABC", "bcdefghijklmno", "B", "B", "B", "B"},
		// heads and tails in the order of Blocks, each once
		"ABCDE: AB BC CD DB DC DE BB": {"ABCDE", "deg", "BC", "BD", "BD", "BC"},
		"ADCBE: AB BC CD DB DC DE BB": {"ABCDE", "deg", "CB", "DB", "DB", "CB"},
		"ACBDE: AB BC CD DB DC DE CB": {"ABCDE", "deg", "CB", "CD", "CD", "CB"},
	} {
		n := net(text)
		for i, f := range shapeOf {
			if s, ok := f.call(n); s != want[i] || !ok {
				t.Errorf("%s(%q) = %q, %v, not %q", f.name, text, s, ok, want[i])
			}
		}
	}
}

func TestOrderOfInvalidNets(t *testing.T) {
	for _, n := range invalidNets() {
		for _, f := range shapeOf {
			if s, ok := f.call(n); s != "" || ok {
				t.Errorf("%s(%.99v) = %q, %v", f.name, n, s, ok)
			}
		}
		if s, ok := impl.LongestRun(n); s != "" || ok {
			t.Errorf("LongestRun(%.99v) = %q, %v", n, s, ok)
		}
		for _, run := range []string{"", "a", "b", "ab", "abc", "ac", "A", strings.Repeat("b", 61)} {
			if list, ok := impl.CutRun(n, run); len(list) != 0 || ok {
				t.Errorf("CutRun(%.99v, %q) = %q, %v", n, run, list, ok)
			}
		}
	}
}

func TestLongestRun(t *testing.T) {
	for text, want := range map[string]string{
		"AB: AB":              "a",
		"AB: AB AB":           "a",
		"HG: HG HG HG":        "a",
		"ABC: AB BC":          "ab",
		"ABC: BC AB AC":       "ba",
		"ABC: AC AC AC AB BC": "de",
		"ABCD: CD BC AB":      "cba",
		"ABCD: AB AC BD CD":   "ac",
		"ABCD: CD AC BD AB":   "ba",
		// several are as long: they part at the first, at a later and at the last edge
		"ABCDE: AC AB CD BD DE":       "ace",
		"ABCDE: AB AC CD BD DE":       "ade",
		"ABCDE: DE CE BD BC AB":       "eca",
		"ABCDE: AB BC BD DE CE DE":    "abe",
		"ABCDE: AB BC CE DE DE BD AD": "abc",
		"ABC: AB AB BC BC":            "ac",
		"ABC: BC BC AB AB":            "ca",
		// the shortest way on is the first one, or the first edge leads to a shorter run
		"ABCD: AD AC AB BC BD CD":                            "cdf",
		"ABCDE: AB BE AC CD DE":                              "cde",
		"ABCDEF: AB BF BE AC CD CE DE DF EF":                 "degi",
		"ABCDEF: AB AC BC BD CD DE DF EF":                    "acefh",
		"ABCDEFGH: AH AG AF AE AD AC AB BC CD DE EF FG GH":   "ghijklm",
		"ABCDEFGH: AB AC AD BE CE DE EF EG FH GH":            "adgi",
		"ABCDEFGH: AG GF FE ED DC CB BH GH FH EH DH CH":      "abcdefg",
		"ABCDEFG: AB AB AB BC BC BC CD CD CD DE DE EF EF FG": "adgjln",
	} {
		if s, ok := impl.LongestRun(net(text)); s != want || !ok {
			t.Errorf("LongestRun(%q) = %q, %v, not %q", text, s, ok, want)
		}
	}
	for _, text := range []string{
		"ABC: AB BB BC", "ABC: AB BC BB AC", "ABCD: AB BC CB CD", "ABCD: AB AC BC CB BD CD", "ABCD: AD AB BC CB CD", "ABCDEFGH: AB BC CD DE EF FG GB GH",
	} {
		if s, ok := impl.LongestRun(net(text)); s != "" || ok {
			t.Errorf("LongestRun(%q) = %q, %v", text, s, ok)
		}
	}
}

func TestCutRun(t *testing.T) {
	loop, self, two := "ABCD: AB BC CB CD", "ABC: AB BB BC", "ABCD: AB BB BC CC CD CB"
	for _, c := range []struct{ text, run, want string }{
		// cut nowhere
		{"AB: AB AB", "b", "b"},
		{"ABCDEF: AB AC BC BD CD DE DF EF", "acefh", "acefh"},
		{loop, "abd", "abd"},
		{self, "ac", "ac"},
		{two, "ace", "ace"},
		// once and several times
		{loop, "abcbd", "ab bd"},
		{loop, "abcbcbd", "ab b bd"},
		{loop, "abcbcbcbd", "ab b b bd"},
		{two, "acfce", "ac ce"},
		// right behind the first edge, right ahead of the last one, both
		{self, "abc", "a c"},
		{two, "abce", "a ce"},
		{two, "acde", "ac e"},
		{two, "abcde", "a c e"},
		{two, "abcfcde", "a c c e"},
		// parts that are empty: edges that lead back follow each other at once
		{self, "abbc", "a  c"},
		{self, "abbbbc", "a    c"},
		{two, "abbcdde", "a  c  e"},
		{two, "acfbcdfbce", "ac  c   ce"},
		{two, "acdfbbcde", "ac    c e"},
		{"ABC: AB BB BC BB", "abdbc", "a   c"},
		// the way order tells which edge of a round leads back
		{"ABCD: AB AC BC CB BD", "acde", "a de"},
		{"ABCD: AB AC BC CB BD", "bde", "bde"},
		{"ABCD: AB AC BC CB BD", "bdcde", "bd de"},
		{"ABCD: AC AB BC CB BD", "ade", "a e"},
		{"ABCD: AC AB BC CB BD", "be", "be"},
		{"ABCD: AC AB BC CB BD", "bcdcde", "bc c e"},
		{"ABCD: AB BD BC CB", "acdb", "ac b"},
	} {
		list, ok := impl.CutRun(net(c.text), c.run)
		if !slices.Equal(list, strings.Split(c.want, " ")) || !ok {
			t.Errorf("CutRun(%q, %q) = %q, %v, not %q", c.text, c.run, list, ok, c.want)
		}
	}
}

func TestCutLongRun(t *testing.T) {
	n := net("ABC: AB BB BC")
	want := slices.Concat([]string{"a"}, make([]string, 57), []string{"c"})
	if list, ok := impl.CutRun(n, "a"+strings.Repeat("b", 58)+"c"); !slices.Equal(list, want) || !ok {
		t.Errorf("CutRun = %q, %v", list, ok)
	}
	if list, ok := impl.CutRun(n, "a"+strings.Repeat("b", 59)+"c"); len(list) != 0 || ok {
		t.Errorf("CutRun = %q, %v", list, ok)
	}
}

func TestCutRunOfOtherTexts(t *testing.T) {
	for _, run := range []string{
		"", "a", "b", "c", "d", "ab", "abc", "abcb", "bd", "bcbd", "cbd", "ad", "abdd", "abda", "abcd", "abbd", "abe", "abz", "ABCD", "abD",
		"a b d", " abd", "abd ", "abd\n", "abd\x00", "\x00", "\xff", "ab\xe4", "ä", strings.Repeat("abd", 100000),
	} {
		if list, ok := impl.CutRun(net("ABCD: AB BC CB CD"), run); len(list) != 0 || ok {
			t.Errorf("CutRun(%.99q) = %.99q, %v", run, list, ok)
		}
	}
}

// TestMemoryOfOrder writes to all results, their unused capacity included, and looks whether an argument or another result changes.
func TestMemoryOfOrder(t *testing.T) {
	spare := append(net("ABCD: AB BB BC CC CD CB").Edges, impl.Edge{From: "X", To: "Y"})
	n := impl.Net{Blocks: "ABCD", Edges: spare[:6]}
	before := slices.Clone(spare)
	want := []string{"a", "", "c", "ce"}
	one, _ := impl.CutRun(n, "abbcfce")
	two, _ := impl.CutRun(n, "abbcfce")
	all := one[:cap(one)]
	for i := range all {
		all[i] = "?"
	}
	if three, ok := impl.CutRun(n, "abbcfce"); !slices.Equal(two, want) || !slices.Equal(three, want) || !ok {
		t.Errorf("CutRun shares memory: %q, %q", two, three)
	}
	for _, f := range shapeOf {
		f.call(n)
	}
	impl.LongestRun(n)
	if !slices.Equal(spare, before) {
		t.Errorf("the argument is now %v", spare)
	}
}

// ordered goes through blocks with a pile of those that are begun, and turns round the list of those that are done.
func ordered(n impl.Net) string {
	done, pile := []byte{}, n.Blocks[:1]
	begun := pile
	for pile != "" {
		here := pile[len(pile)-1:]
		next := ""
		for _, e := range n.Edges {
			if e.From == here && !strings.Contains(begun, e.To) {
				next = e.To
			}
		}
		if next == "" {
			done = append(done, here[0])
			pile = pile[:len(pile)-1]
		}
		pile += next
		begun += next
	}
	slices.Reverse(done)
	return string(done)
}

// checkOrderOf compares the functions of order with what their definitions say.
func checkOrderOf(t *testing.T, n impl.Net) {
	order := ordered(n)
	back := ""
	comesTo, leaves, heads, tails := map[string]int{}, map[string]int{}, map[string]int{}, map[string]int{}
	for i, e := range n.Edges {
		comesTo[e.To]++
		leaves[e.From]++
		if strings.Index(order, e.To) <= strings.Index(order, e.From) {
			back += string(rune('a' + i))
			heads[e.To]++
			tails[e.From]++
		}
	}
	least := func(counts map[string]int, number int) string {
		blocks := ""
		for _, b := range n.Blocks {
			if counts[string(b)] >= number {
				blocks += string(b)
			}
		}
		return blocks
	}
	for i, want := range []string{order, back, least(heads, 1), least(tails, 1), least(leaves, 2), least(comesTo, 2)} {
		if s, ok := shapeOf[i].call(n); s != want || !ok {
			t.Fatalf("%s(%v) = %q, %v, not %q", shapeOf[i].name, n, s, ok, want)
		}
	}
}

// checkRounds checks what is promised: each way round has an edge that leads back, and each edge that leads back is on a way round.
func checkRounds(t *testing.T, n impl.Net) {
	back, _ := impl.BackEdges(n)
	rest := impl.Net{Blocks: n.Blocks}
	for i, e := range n.Edges {
		if !strings.Contains(back, string(rune('a'+i))) {
			rest.Edges = append(rest.Edges, e)
		} else if !comes(n, -1)[e.To[0]][e.From[0]] {
			t.Fatalf("BackEdges(%v) = %q", n, back)
		}
	}
	if hasRound(rest) || (back != "") != hasRound(n) {
		t.Fatalf("BackEdges(%v) = %q", n, back)
	}
}

// checkLongest looks through all runs.
func checkLongest(t *testing.T, n impl.Net) {
	longest := ""
	runs, acyclic := impl.AllRuns(n)
	for _, run := range runs {
		if len(run) > len(longest) {
			longest = run
		}
	}
	if s, ok := impl.LongestRun(n); s != longest || ok != acyclic {
		t.Fatalf("LongestRun(%v) = %q, %v, not %q", n, s, ok, longest)
	}
}

// checkCut reads a run edge by edge. No run begins or ends with an edge that leads back, as nothing comes to the entry and nothing leaves the exit.
func checkCut(t *testing.T, n impl.Net, run string) {
	order := ordered(n)
	want := []string{""}
	for i := range len(run) {
		e := n.Edges[run[i]-'a']
		if strings.Index(order, e.From) < strings.Index(order, e.To) {
			want[len(want)-1] += run[i : i+1]
		} else {
			want = append(want, "")
		}
	}
	list, ok := impl.CutRun(n, run)
	if !slices.Equal(list, want) || !ok || list[0] == "" || list[len(list)-1] == "" {
		t.Fatalf("CutRun(%v, %q) = %q, %v, not %q", n, run, list, ok, want)
	}
	for _, part := range list {
		if !impl.IsPath(n, part) {
			t.Fatalf("CutRun(%v, %q) has %q", n, run, part)
		}
	}
}

func TestOrderOfSmallNets(t *testing.T) {
	smallNets(func(n impl.Net) {
		checkOrderOf(t, n)
		checkRounds(t, n)
		checkLongest(t, n)
	})
}

func TestOrderOfSomeNets(t *testing.T) {
	check := func(n impl.Net) {
		checkOrderOf(t, n)
		checkRounds(t, n)
		checkLongest(t, n)
	}
	someNets(3000, false, check)
	someNets(1000, true, check)
}

// walkByChance returns the run of picks that are thrown.
func walkByChance(dice *rand.Rand, n impl.Net) string {
	picks := make([]int, dice.Intn(40))
	for i := range picks {
		picks[i] = dice.Intn(100)
	}
	run, _ := impl.WalkRun(n, picks)
	return run
}

func TestCutsOfSomeNets(t *testing.T) {
	dice := rand.New(rand.NewSource(2))
	someNets(3000, false, func(n impl.Net) {
		checkCut(t, n, walkByChance(dice, n))
		cover, _ := impl.CoverRuns(n)
		for _, run := range cover {
			checkCut(t, n, run)
		}
	})
}
