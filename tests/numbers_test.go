package tests

import (
	"math"
	"slices"
	"strings"
	"testing"

	"loop.example/pathcounts/impl"
)

// numbered has nets with results that were worked out by hand: for each edge its value and how many runs have it, for each
// block in the order of Blocks how many paths lead to the exit, and the runs, from number 0 on.
var numbered = []struct {
	text                  string
	values, through, from []int
	runs                  string
}{
	// one path only
	{"AB: AB", []int{0}, []int{1}, []int{1, 1}, "a"},
	{"CAB: CA AB", []int{0, 0}, []int{1, 1}, []int{1, 1, 1}, "ab"},
	{"ABCD: CD BC AB", []int{0, 0, 0}, []int{1, 1, 1}, []int{1, 1, 1, 1}, "cba"},
	{"ABCDEFGH: AB BC CD DE EF FG GH", make([]int, 7), slices.Repeat([]int{1}, 7), slices.Repeat([]int{1}, 8), "abcdefg"},
	// blocks from which there is one path only beside others
	{"ABCD: AB AC BD CD", []int{0, 1, 0, 0}, []int{1, 1, 1, 1}, []int{2, 1, 1, 1}, "ac bd"},
	{"ABCD: AB AC BD CD AD", []int{0, 1, 0, 0, 2}, []int{1, 1, 1, 1, 1}, []int{3, 1, 1, 1}, "ac bd e"},
	{"ABCD: AD AB BC CD AC", []int{0, 1, 0, 0, 2}, []int{1, 1, 1, 2, 1}, []int{3, 1, 1, 1}, "a bcd ed"},
	{"ABCDEF: AB AC BC BD CD DE DF EF", []int{0, 4, 0, 2, 0, 0, 1, 0}, []int{4, 2, 2, 2, 4, 3, 3, 3}, []int{6, 4, 2, 2, 1, 1}, "acefh aceg adfh adg befh beg"},
	{"ABCDEFG: AB AC BD CD DE DF EG FG", []int{0, 2, 0, 0, 0, 1, 0, 0}, slices.Repeat([]int{2}, 8), []int{4, 2, 2, 2, 1, 1, 1}, "aceg acfh bdeg bdfh"},
	// edges in another order than blocks
	{"ABCDEF: EF DF AB AC BC BD CD DE", []int{0, 0, 0, 4, 0, 2, 0, 1}, []int{3, 3, 4, 2, 2, 2, 4, 3}, []int{6, 4, 2, 2, 1, 1}, "cegb cegha cfb cfha dgb dgha"},
	{"AEDCBF: EF DF AB AC BC BD CD DE", []int{0, 0, 0, 4, 0, 2, 0, 1}, []int{3, 3, 4, 2, 2, 2, 4, 3}, []int{6, 1, 2, 2, 4, 1}, "cegb cegha cfb cfha dgb dgha"},
	// several edges with the same ends, beside each other and not
	{"AB: AB AB", []int{0, 1}, []int{1, 1}, []int{2, 1}, "a b"},
	{"HG: HG HG HG", []int{0, 1, 2}, []int{1, 1, 1}, []int{3, 1}, "a b c"},
	{"CAB: AB CA AB CA", []int{0, 0, 1, 2}, []int{2, 2, 2, 2}, []int{4, 2, 1}, "ba bc da dc"},
	{"ABCD: AB AC AB BD CD BD", []int{0, 2, 3, 0, 0, 1}, []int{2, 1, 2, 2, 1, 2}, []int{5, 2, 1, 1}, "ad af be cd cf"},
	{"ABC: AC AB BC AC BC AC", []int{0, 1, 0, 3, 1, 4}, []int{1, 2, 1, 1, 1, 1}, []int{5, 2, 1}, "a bc be d f"},
	// edges that are in all runs: the first, the last, in between
	{"ABCDE: AB BC BC CD DE DE", []int{0, 0, 2, 0, 0, 1}, []int{4, 2, 2, 4, 2, 2}, []int{4, 4, 2, 2, 1}, "abde abdf acde acdf"},
	{"ABCDE: DE AB BC BD CD BD", []int{0, 0, 0, 1, 0, 2}, []int{3, 3, 1, 1, 1, 1}, []int{3, 3, 1, 1, 1}, "bcea bda bfa"},
}

func TestNumbersOfNets(t *testing.T) {
	for _, c := range numbered {
		n := net(c.text)
		if list, ok := impl.ValuesOf(n); !slices.Equal(list, c.values) || !ok {
			t.Errorf("ValuesOf(%q) = %v, %v, not %v", c.text, list, ok, c.values)
		}
		for i := range n.Edges {
			edge := string(rune('a' + i))
			if value, through := impl.ValueOf(n, edge), impl.CountThrough(n, edge); value != c.values[i] || through != c.through[i] {
				t.Errorf("of %q and %q: ValueOf = %d, CountThrough = %d, not %d, %d", c.text, edge, value, through, c.values[i], c.through[i])
			}
		}
		for i, b := range n.Blocks {
			if count := impl.CountFrom(n, string(b)); count != c.from[i] {
				t.Errorf("CountFrom(%q, %q) = %d, not %d", c.text, b, count, c.from[i])
			}
		}
		checkNumbers(t, n, strings.Fields(c.runs))
	}
}

// checkNumbers expects all runs in their order; numbers are counted, listed and gone through one after the other.
func checkNumbers(t *testing.T, n impl.Net, runs []string) {
	t.Helper()
	if count := impl.CountRuns(n); count != len(runs) {
		t.Fatalf("CountRuns(%v) = %d, not %d", n, count, len(runs))
	}
	next, more := impl.RunOf(n, 0)
	for i, run := range runs {
		if s, ok := impl.RunOf(n, i); s != run || !ok || impl.NumberOf(n, run) != i {
			t.Fatalf("of %v: RunOf(%d) = %q, %v; NumberOf(%q) = %d", n, i, s, ok, run, impl.NumberOf(n, run))
		}
		if next != run || !more {
			t.Fatalf("of %v: the run with the number %d is not %q but %q, %v", n, i, run, next, more)
		}
		next, more = impl.NextRun(n, next)
	}
	if next != "" || more {
		t.Fatalf("of %v: NextRun of the last one = %q, %v", n, next, more)
	}
	checkNoRunAt(t, n, -1, -2, len(runs), len(runs)+1, -len(runs), math.MinInt, math.MaxInt, math.MinInt+1, 1<<8, 1<<32, -1<<32, 400, 401)
}

// checkNoRunAt leaves out the numbers that a net has.
func checkNoRunAt(t *testing.T, n impl.Net, numbers ...int) {
	t.Helper()
	for _, number := range numbers {
		if number >= 0 && number < impl.CountRuns(n) {
			continue
		}
		if s, ok := impl.RunOf(n, number); s != "" || ok {
			t.Fatalf("RunOf(%.99v, %d) = %q, %v", n, number, s, ok)
		}
	}
}

func checkNoRun(t *testing.T, n impl.Net, run string) {
	t.Helper()
	if number := impl.NumberOf(n, run); number != -1 {
		t.Errorf("NumberOf(%.99v, %.99q) = %d", n, run, number)
	}
	if s, ok := impl.NextRun(n, run); s != "" || ok {
		t.Errorf("NextRun(%.99v, %.99q) = %q, %v", n, run, s, ok)
	}
}

func checkNoEdge(t *testing.T, n impl.Net, edge string) {
	t.Helper()
	if value, through := impl.ValueOf(n, edge), impl.CountThrough(n, edge); value != -1 || through != -1 {
		t.Errorf("of %.99v and %.99q: ValueOf = %d, CountThrough = %d", n, edge, value, through)
	}
}

func checkNoBlock(t *testing.T, n impl.Net, block string) {
	t.Helper()
	if count := impl.CountFrom(n, block); count != -1 {
		t.Errorf("CountFrom(%.99v, %.99q) = %d", n, block, count)
	}
}

// checkNoNumbers expects a net that is not valid or not acyclic.
func checkNoNumbers(t *testing.T, n impl.Net) {
	t.Helper()
	if count := impl.CountRuns(n); count != -1 {
		t.Errorf("CountRuns(%.99v) = %d", n, count)
	}
	if list, ok := impl.ValuesOf(n); len(list) != 0 || ok {
		t.Errorf("ValuesOf(%.99v) = %v, %v", n, list, ok)
	}
	for _, block := range []string{"", "A", "B", "C", "D", "E", "F", "G", "H", "AB", "\xff"} {
		checkNoBlock(t, n, block)
	}
	for _, edge := range []string{"", "a", "b", "c", "d", "e", "f", "p", "q", "z", "ab", "\xff"} {
		checkNoEdge(t, n, edge)
	}
	for _, run := range []string{"", "a", "b", "ab", "ac", "bd", "abc", "abd", "abcd", "A", strings.Repeat("b", 61)} {
		checkNoRun(t, n, run)
	}
	checkNoRunAt(t, n, -1, 0, 1, 2, -2, math.MinInt, math.MaxInt)
}

func TestNumbersOfInvalidNets(t *testing.T) {
	for _, n := range invalidNets() {
		checkNoNumbers(t, n)
	}
}

// TestNumbersOfNetsWithWaysBack also has blocks, edges and runs that no way back comes near.
func TestNumbersOfNetsWithWaysBack(t *testing.T) {
	for text, run := range map[string]string{
		"ABC: AB BB BC":                                 "ac",
		"ABC: AB BC BB AC":                              "d",
		"ABCD: AB BC CB CD":                             "abd",
		"ABCD: AB BC CB CD AD":                          "e",
		"ABCD: AB AC BB BD CD":                          "be",
		"ABCD: AC AB CD BC CB BD":                       "ac",
		"ABCDEFGH: AB BC CD DE EF FG GB GH":             "abcdefh",
		"ABCDEFGH: AB AC AD BE CE DE EF EG FH GH FG GF": "adgi",
	} {
		n := net(text)
		checkNoNumbers(t, n)
		checkNoRun(t, n, run)
		if !impl.IsRun(n, run) {
			t.Errorf("%q is no run of %q", run, text)
		}
	}
}

func TestNumbersOfOtherArguments(t *testing.T) {
	n := net("ABCDEF: AB AC BC BD CD DE DF EF")
	for _, block := range []string{"", "G", "H", "I", "@", "a", "f", "AB", "AA", "ABCDEF", " ", "A ", " A", "A\n", "\x00", "\xff", "\xc1", "Ä", strings.Repeat("A", 100000)} {
		checkNoBlock(t, n, block)
	}
	for _, edge := range []string{"", "i", "j", "p", "q", "z", "`", "{", "A", "H", "ab", "aa", "abcdefgh", " ", "a ", " a", "a\n", "\x00", "\xff", "\xe1", "ä", strings.Repeat("a", 100000)} {
		checkNoEdge(t, n, edge)
	}
	for _, run := range []string{
		"", "a", "b", "g", "h", "ac", "ace", "eg", "cefh", "ab", "ba", "adf", "aceh", "gda", "adgg", "adga", "aadg", "adgadg", "adi", "adz", "z", "ADG", "adG", "ABDF",
		" adg", "adg ", "a d g", "adg\n", "adg\x00", "\x00", "\xff", "ad\xe7", "ä", "0", strings.Repeat("adg", 100000),
	} {
		checkNoRun(t, n, run)
	}
	// with one block more and one edge less they are others
	checkNoBlock(t, net("AB: AB"), "C")
	checkNoEdge(t, net("AB: AB"), "b")
	checkNoRun(t, net("AB: AB"), "b")
}

// TestMostNumbers has the nets with the most runs that there are, and one with a power of two of them.
func TestMostNumbers(t *testing.T) {
	wide := net("ABCDEF: AB AB AB BC BC BC CD CD CD DE DE DE EF EF EF EF")
	if list, ok := impl.ValuesOf(wide); !slices.Equal(list, []int{0, 108, 216, 0, 36, 72, 0, 12, 24, 0, 4, 8, 0, 1, 2, 3}) || !ok {
		t.Errorf("ValuesOf = %v, %v", list, ok)
	}
	for text, want := range map[string]int{
		"ABCDEF: AB AB AB BC BC BC CD CD CD DE DE DE EF EF EF EF":   324,
		"ABCDEF: EF EF EF EF DE DE DE CD CD CD BC BC BC AB AB AB":   324,
		"ABCDEFG: AB AB AB BC BC BC CD CD CD DE DE DE EF EF FG FG":  324,
		"ABCDEFGH: AB AB BC BC CD CD DE DE EF EF FG FG GH GH GH GH": 256,
		"AB: AB AB AB AB AB AB AB AB AB AB AB AB AB AB AB AB":       16,
	} {
		n := net(text)
		runs, ok := impl.AllRuns(n)
		if len(runs) != want || !ok {
			t.Fatalf("AllRuns(%q) = %d, %v", text, len(runs), ok)
		}
		checkNumbers(t, n, runs)
	}
}

// TestMemoryOfNumbers writes to all results, their unused capacity included, and looks whether an argument or another result changes.
func TestMemoryOfNumbers(t *testing.T) {
	spare := append(net("ABCDEF: AB AC BC BD CD DE DF EF").Edges, impl.Edge{From: "X", To: "Y"})
	n := impl.Net{Blocks: "ABCDEF", Edges: spare[:8]}
	before := slices.Clone(spare)
	want := []int{0, 4, 0, 2, 0, 0, 1, 0}
	one, _ := impl.ValuesOf(n)
	two, _ := impl.ValuesOf(n)
	all := one[:cap(one)]
	for i := range all {
		all[i] = -7
	}
	if three, ok := impl.ValuesOf(n); !slices.Equal(two, want) || !slices.Equal(three, want) || !ok {
		t.Errorf("ValuesOf shares memory: %v, %v", two, three)
	}
	impl.CountRuns(n)
	impl.CountFrom(n, "B")
	impl.ValueOf(n, "b")
	impl.CountThrough(n, "c")
	impl.NumberOf(n, "adg")
	impl.RunOf(n, 3)
	impl.NextRun(n, "adg")
	if !slices.Equal(spare, before) {
		t.Errorf("the argument is now %v", spare)
	}
}

// checkCounts compares counts and values with what their definitions say, looking through all paths.
func checkCounts(t *testing.T, n impl.Net) {
	runs, _ := impl.AllRuns(n)
	values, ok := impl.ValuesOf(n)
	if len(values) != len(n.Edges) || !ok {
		t.Fatalf("ValuesOf(%v) = %v, %v", n, values, ok)
	}
	from := map[string]int{}
	for _, b := range n.Blocks {
		paths, _ := impl.PathsFrom(n, string(b))
		from[string(b)] = len(paths)
		if count := impl.CountFrom(n, string(b)); count != len(paths) {
			t.Fatalf("CountFrom(%v, %q) = %d, not %d", n, b, count, len(paths))
		}
	}
	bridges, _ := impl.BridgesOf(n)
	for i, e := range n.Edges {
		edge := string(rune('a' + i))
		value, through := 0, 0
		for _, ahead := range n.Edges[:i] {
			if ahead.From == e.From {
				value += from[ahead.To]
			}
		}
		for _, run := range runs {
			through += strings.Count(run, edge)
		}
		if values[i] != value || impl.ValueOf(n, edge) != value || impl.CountThrough(n, edge) != through {
			t.Fatalf("of %v and %q: ValuesOf = %v, ValueOf = %d, CountThrough = %d, not %d, %d", n, edge, values, impl.ValueOf(n, edge), impl.CountThrough(n, edge), value, through)
		}
		if strings.Contains(bridges, edge) != (through == len(runs)) {
			t.Fatalf("of %v: %q is in %d of %d runs, BridgesOf = %q", n, edge, through, len(runs), bridges)
		}
	}
	checkNumbers(t, n, runs)
}

func TestNumbersOfSmallNets(t *testing.T) {
	smallNets(func(n impl.Net) {
		if hasRound(n) {
			checkNoNumbers(t, n)
		} else {
			checkCounts(t, n)
		}
	})
}

func TestNumbersOfSomeNets(t *testing.T) {
	someNets(1000, true, func(n impl.Net) { checkCounts(t, n) })
	someNets(500, false, func(n impl.Net) {
		if hasRound(n) {
			checkNoNumbers(t, n)
		}
	})
}

// TestNumbersOfNearRuns asks for all short texts of names of edges; those that are no runs have no number.
func TestNumbersOfNearRuns(t *testing.T) {
	for _, text := range []string{"ABCD: AB AC BD CD AD", "CAB: AB CA AB CA CB", "ABCD: AB BC AC CD"} {
		n := net(text)
		runs, _ := impl.AllRuns(n)
		for _, run := range texts(len(n.Edges)+1, 4) {
			number := slices.Index(runs, run)
			if number < 0 {
				checkNoRun(t, n, run)
			} else if impl.NumberOf(n, run) != number {
				t.Errorf("NumberOf(%q, %q) = %d, not %d", text, run, impl.NumberOf(n, run), number)
			}
		}
	}
}
