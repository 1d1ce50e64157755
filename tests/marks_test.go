package tests

import (
	"fmt"
	"math"
	"math/rand"
	"slices"
	"strings"
	"testing"
	"testing/synctest"

	"loop.example/pathcounts/impl"
)

const laterNet = "ABCDE: AB BC CD CD DE"

// marked has nets and trees with marks that were worked out by hand, those without and with the steps of the tree and the late
// ones, with the clean blocks, and how much all of these marks do.
var marked = []struct {
	text, tree               string
	plain, made, late, clean string
	counts                   [3]int
}{
	{diamond, "ab", "r=0 r=1 -c -c", "r=0 r=0 -c r+1c", "- - f0c f1c", "ABC", [3]int{4, 5, 2}},
	{diamond, "ad", "r=0 r=1 -c -c", "r=0 r=1 -c -c", "- r=1 f0c -c", "AB", [3]int{4, 4, 3}},
	{diamond, "bc", "r=0 r=1 -c -c", "r=0 r=0 -c r+1c", "- - f0c f1c", "ABC", [3]int{4, 5, 2}},
	// registers that are set late, also to 0 and below
	{sixNet, "acgh", "r=0 r=4 - r+2 - - r+1c -c", "r=0 r=4 - r+3 r+1 r+-1 -c -c", "- r=4 r=0 r=3 r+1 r+-1 -c -c", "AB", [3]int{6, 7, 7}},
	{sixNet, "acef", "r=0 r=4 - r+2 - - r+1c -c", "r=0 r=4 - r+2 - - r+1c -c", "- r=4 r=0 r=2 - - r+1c -c", "AB", [3]int{6, 6, 6}},
	{sixNet, "abdf", "r=0 r=4 - r+2 - - r+1c -c", "r=0 r=0 r+-4 - r+2 - r+3c r+2c", "- r=0 r=-4 r=0 r+2 - r+3c r+2c", "AB", [3]int{6, 8, 8}},
	{twoTurns, "abdef", "r=0 r=2 - - - r+1 -c -c", "r=0 r=0 r+-2 - - - r+2c r+3c", "- - r=-2 r=0 - - r+2c r+3c", "ABC", [3]int{5, 7, 6}},
	{twoTurns, "abfgh", "r=0 r=2 - - - r+1 -c -c", "r=0 r=0 r+1 r+3 r+-1 - -c -c", "- - r=1 r=3 r+-1 - -c -c", "ABC", [3]int{5, 7, 5}},
	{twoTurns, "abcef", "r=0 r=2 - - - r+1 -c -c", "r=0 r=0 - r+2 - - -c r+1c", "- - r=0 r=2 - - -c r+1c", "ABC", [3]int{5, 6, 5}},
	{twoTurns, "bcegh", "r=0 r=2 - - - r+1 -c -c", "r=0 r=0 - r+2 - r+1 -c -c", "- - r=0 r=2 - r+1 -c -c", "ABC", [3]int{5, 6, 5}},
	{twoTurns, "cdegh", "r=0 r=2 - - - r+1 -c -c", "r=0 r=2 - - - r+1 -c -c", "- r=2 r=0 - - r+1 -c -c", "AB", [3]int{5, 5, 5}},
	{laterNet, "abc", "r=0 - - r+1 -c", "r=0 - - r+1 -c", "- - r=0 r=1 -c", "ABC", [3]int{3, 3, 3}},
	{laterNet, "abd", "r=0 - - r+1 -c", "r=0 - r+-1 - r+1c", "- - r=-1 r=0 r+1c", "ABC", [3]int{3, 4, 4}},
	// blocks in another order than edges
	{"CAB: AB CA AB CA", "a", "-c r=0 r+1c r=2", "-c r=0 r+1c r=2", "-c r=0 r+1c r=2", "C", [3]int{5, 5, 5}},
	{"CAB: AB CA AB CA", "c", "-c r=0 r+1c r=2", "r+-1c r=1 -c r=3", "r+-1c r=1 -c r=3", "C", [3]int{5, 5, 5}},
	{"HCG: CG HC CG HC", "d", "-c r=0 r+1c r=2", "r+2c r=-2 r+3c r=0", "r+2c r=-2 r+3c r=0", "H", [3]int{5, 6, 6}},
	{"EACBD: BD AB EA CD EC", "abd", "-c - r=0 -c r=1", "-c - r=0 -c r=1", "f0c - - -c r=1", "EAB", [3]int{4, 4, 3}},
	// edges with the same ends
	{twiceNet, "a", "r=0 r=2 -c r+1c", "r=0 r=2 -c r+1c", "r=0 r=2 -c r+1c", "A", [3]int{5, 5, 5}},
	{twiceNet, "b", "r=0 r=2 -c r+1c", "r=-2 r=0 r+2c r+3c", "r=-2 r=0 r+2c r+3c", "A", [3]int{5, 6, 6}},
	// edges from the entry to the exit, and marks that count without the register
	{pastNet, "b", "r=0c r=1 -c r=2c", "r=0c r=0 r+1c r=2c", "f0c - f1c f2c", "AB", [3]int{6, 7, 3}},
	{pastNet, "c", "r=0c r=1 -c r=2c", "r=0c r=1 -c r=2c", "f0c r=1 -c f2c", "A", [3]int{6, 6, 4}},
	{pairNet, "", "r=0c r=1c", "r=0c r=1c", "f0c f1c", "A", [3]int{4, 4, 2}},
	{"HG: HG HG HG HG", "", "r=0c r=1c r=2c r=3c", "r=0c r=1c r=2c r=3c", "f0c f1c f2c f3c", "H", [3]int{8, 8, 4}},
	// all blocks are clean
	{"AB: AB", "", "r=0c", "r=0c", "f0c", "AB", [3]int{2, 2, 1}},
	{chainNet, "abcdef", "r=0 - - - - - -c", "r=0 - - - - - -c", "- - - - - - f0c", "ABCDEFGH", [3]int{2, 2, 1}},
	{chainNet, "bcdefg", "r=0 - - - - - -c", "r=0 - - - - - -c", "- - - - - - f0c", "ABCDEFGH", [3]int{2, 2, 1}},
	{"HBGA: BG HB GA", "ab", "- r=0 -c", "- r=0 -c", "- - f0c", "HBGA", [3]int{2, 2, 1}},
}

func TestLimitOfSteps(t *testing.T) {
	if impl.MaxStep != 100000 {
		t.Errorf("MaxStep = %d", impl.MaxStep)
	}
}

// readMarks reads what FormatMarks writes.
func readMarks(text string) []impl.Mark {
	var marks []impl.Mark
	for _, word := range strings.Fields(text) {
		rest, count := strings.CutSuffix(word, "c")
		m := impl.Mark{Count: count}
		for begin, op := range map[string]string{"r=": "set", "r+": "add", "f": "fix"} {
			if number, ok := strings.CutPrefix(rest, begin); ok {
				m.Op = op
				fmt.Sscan(number, &m.N)
			}
		}
		marks = append(marks, m)
	}
	return marks
}

func TestMarksOfNets(t *testing.T) {
	for _, c := range marked {
		n := net(c.text)
		plain, one := impl.PlainMarks(n)
		made, two := impl.TreeMarks(n, c.tree)
		late, three := impl.LateMarks(n, c.tree)
		for i, got := range []struct {
			marks []impl.Mark
			ok    bool
			want  string
		}{{plain, one, c.plain}, {made, two, c.made}, {late, three, c.late}} {
			if !slices.Equal(got.marks, readMarks(got.want)) || !got.ok || impl.FormatMarks(got.marks) != got.want {
				t.Errorf("marks %d of %q, %q: %v, %v, not %q", i, c.text, c.tree, got.marks, got.ok, got.want)
			}
			if count := impl.CountMarks(got.marks); count != c.counts[i] {
				t.Errorf("CountMarks(%q) = %d, not %d", got.want, count, c.counts[i])
			}
			if !impl.MarksValid(n, got.marks) || !impl.CheckMarks(n, got.marks) {
				t.Errorf("the marks %q of %q: MarksValid = %v, CheckMarks = %v", got.want, c.text, impl.MarksValid(n, got.marks), impl.CheckMarks(n, got.marks))
			}
		}
		if clean, ok := impl.CleanBlocks(n, c.tree); clean != c.clean || !ok {
			t.Errorf("CleanBlocks(%q, %q) = %q, %v, not %q", c.text, c.tree, clean, ok, c.clean)
		}
	}
}

func TestRunMarks(t *testing.T) {
	for _, c := range []struct {
		text, marks, run string
		counted          []int
		done             int
	}{
		// late marks of the tree acgh: what is done on each run
		{sixNet, "- r=4 r=0 r=3 r+1 r+-1 -c -c", "acefh", []int{0}, 4},
		{sixNet, "- r=4 r=0 r=3 r+1 r+-1 -c -c", "aceg", []int{1}, 3},
		{sixNet, "- r=4 r=0 r=3 r+1 r+-1 -c -c", "adfh", []int{2}, 3},
		{sixNet, "- r=4 r=0 r=3 r+1 r+-1 -c -c", "adg", []int{3}, 2},
		{sixNet, "- r=4 r=0 r=3 r+1 r+-1 -c -c", "befh", []int{4}, 4},
		{sixNet, "- r=4 r=0 r=3 r+1 r+-1 -c -c", "beg", []int{5}, 3},
		{diamond, "- - f0c f1c", "ac", []int{0}, 1},
		{diamond, "- - f0c f1c", "bd", []int{1}, 1},
		// nothing is done, or nothing counted
		{diamond, "- - - -", "ac", nil, 0},
		{diamond, "r=1 - r+1 -", "ac", nil, 2},
		{diamond, "r=1 - r+1 -", "bd", nil, 0},
		// the register is 0 at first, on each run anew
		{diamond, "-c -c -c -c", "bd", []int{0, 0}, 2},
		{diamond, "r+7c - -c -", "ac", []int{7, 7}, 3},
		{diamond, "r+7c - -c -c", "bd", []int{0}, 1},
		// something counted twice or thrice, behind what is done with the register
		{diamond, "r=5c r+-2 f7c -c", "ac", []int{5, 7}, 3},
		{diamond, "r=5c r+-2 f7c -c", "bd", []int{-2}, 2},
		{sixNet, "r+1c - r+2c - r+3c r+4c - r+5c", "acefh", []int{1, 3, 6, 10, 15}, 10},
		{sixNet, "r=1c - r=2c - r=2c r=-4c - r=0c", "acefh", []int{1, 2, 2, -4, 0}, 10},
		// a register that is set or added to is done, even if it is as before
		{sixNet, "r=0 - r+0 - r=0 r+0c - -", "acefh", []int{0}, 5},
		// fix leaves the register as it is
		{sixNet, "r=9 - f2c - -c f-3c - -c", "acefh", []int{2, 9, -3, 9}, 5},
		{sixNet, "f9c - r+2c - f0c r=1c - f5c", "acefh", []int{9, 2, 0, 1, 5}, 7},
		{sixNet, "f9c - -c - - - - -", "acefh", []int{9, 0}, 2},
		// the greatest and the least numbers
		{pairNet, "r=100000c f-100000c", "a", []int{100000}, 2},
		{pairNet, "r=100000c f-100000c", "b", []int{-100000}, 1},
		{twiceNet, "r=100000c r=-100000c r+100000c r+-100000c", "ac", []int{100000, 200000}, 4},
		{twiceNet, "r=100000c r=-100000c r+100000c r+-100000c", "ad", []int{100000, 0}, 4},
		{twiceNet, "r=100000c r=-100000c r+100000c r+-100000c", "bd", []int{-100000, -200000}, 4},
		// nets with loops: an edge does the same each time
		{loopNet, "r=5 r+1 r+-3c -c", "abd", []int{6}, 3},
		{loopNet, "r=5 r+1 r+-3c -c", "abcbd", []int{3, 4}, 6},
		{loopNet, "r=5 r+1 r+-3c -c", "abcbcbd", []int{3, 1, 2}, 9},
		{loopNet, "- r=2 f8c r+1c", "abcbcbd", []int{8, 8, 3}, 7},
		{loopNet, "-c r+1 -c -c", "abcbcbd", []int{0, 1, 2, 3}, 7},
		{selfNet, "- r+1 -c", "ac", []int{0}, 1},
		{selfNet, "- r+1 -c", "abbbbc", []int{4}, 5},
		{selfNet, "r=3 r+-1c f0c", "abbbbc", []int{2, 1, 0, -1, 0}, 10},
	} {
		list, done, ok := impl.RunMarks(net(c.text), readMarks(c.marks), c.run)
		if !slices.Equal(list, c.counted) || done != c.done || !ok {
			t.Errorf("RunMarks(%q, %q, %q) = %v, %d, %v, not %v, %d", c.text, c.marks, c.run, list, done, ok, c.counted, c.done)
		}
	}
}

// TestRunMarksOfLongRuns has 59, 60 and 61 edges, and sums beyond what a mark adds.
func TestRunMarksOfLongRuns(t *testing.T) {
	n := net(selfNet)
	for _, step := range []int{100000, 1, 0, -1, -100000} {
		marks := []impl.Mark{{Op: "add", N: step, Count: true}, {Op: "add", N: step, Count: true}, {Count: true}}
		for turns := range 60 {
			run := "a" + strings.Repeat("b", turns) + "c"
			list, done, ok := impl.RunMarks(n, marks, run)
			if turns > 58 {
				checkNoRunMarks(t, n, marks, run)
				continue
			}
			if len(list) != turns+2 || list[0] != step || list[turns] != (turns+1)*step || list[turns+1] != (turns+1)*step || done != 2*turns+3 || !ok {
				t.Errorf("RunMarks with %d and %d turns = %v, %d, %v", step, turns, list, done, ok)
			}
		}
	}
}

func TestFormatMarks(t *testing.T) {
	for _, number := range []int{0, 1, -1, 7, -10, 99999, 100000, -100000, 100001, -100001, 1 << 32, math.MaxInt, math.MinInt} {
		for op, begin := range map[string]string{"set": "r=", "add": "r+", "fix": "f"} {
			want := fmt.Sprint(begin, number)
			if s := impl.FormatMarks([]impl.Mark{{Op: op, N: number}}); s != want {
				t.Errorf("FormatMarks of %q, %d = %q", op, number, s)
			}
			if s := impl.FormatMarks([]impl.Mark{{Op: op, N: number, Count: true}}); s != want+"c" {
				t.Errorf("FormatMarks of %q, %d, counted = %q", op, number, s)
			}
		}
		for _, op := range append([]string{""}, otherOps()...) {
			if s := impl.FormatMarks([]impl.Mark{{Op: op, N: number}, {Op: op, N: number, Count: true}}); s != "- -c" {
				t.Errorf("FormatMarks of %.99q, %d = %q", op, number, s)
			}
		}
	}
	for _, c := range []struct {
		marks []impl.Mark
		want  string
	}{
		{nil, "-"},
		{[]impl.Mark{}, "-"},
		{make([]impl.Mark, 1), "-"},
		{make([]impl.Mark, 3), "- - -"},
		{[]impl.Mark{{Op: "set", N: 5, Count: true}, {Op: "add", N: -2}, {Op: "fix", N: 7, Count: true}, {Count: true}}, "r=5c r+-2 f7c -c"},
		{[]impl.Mark{{Op: "fix", N: -7}, {Op: "sub", N: 3, Count: true}, {N: 4}, {Op: "set"}, {Op: "add"}}, "f-7 -c - r=0 r+0"},
		// more than the edges of a net
		{slices.Repeat([]impl.Mark{{Op: "add", N: 1, Count: true}}, 1000), strings.Repeat("r+1c ", 999) + "r+1c"},
	} {
		if s := impl.FormatMarks(c.marks); s != c.want {
			t.Errorf("FormatMarks(%.99v) = %.99q, not %.99q", c.marks, s, c.want)
		}
	}
}

func TestCountMarks(t *testing.T) {
	for text, want := range map[string]int{
		"":                     0,
		"-":                    0,
		"- - -":                0,
		"-c":                   1,
		"r=0":                  1,
		"r+0":                  1,
		"r=0c":                 2,
		"r+0c":                 2,
		"f0c":                  1,
		"r=5c r+-2 f7c -c":     5,
		"r=5 r+-2 f7c - -c":    4,
		"r=-100000 r+100000c":  3,
		"f100000c f-100000c -": 2,
	} {
		if count := impl.CountMarks(readMarks(text)); count != want {
			t.Errorf("CountMarks(%q) = %d, not %d", text, count, want)
		}
	}
	for _, number := range []int{0, 1, 100, 100000} {
		marks := slices.Repeat([]impl.Mark{{Op: "add", N: 1, Count: true}}, number)
		if count := impl.CountMarks(marks); count != 2*number {
			t.Errorf("CountMarks of %d = %d", number, count)
		}
		if count := impl.CountMarks(append(marks, impl.Mark{Op: "fix"})); count != -1 {
			t.Errorf("CountMarks of %d and one that is none = %d", number, count)
		}
	}
}

// otherOps are no Ops.
func otherOps() []string {
	return []string{
		"sub", "Set", "SET", "ADD", "Fix", "set ", " set", "add\n", "fix\x00", "s", "se", "sett", "setadd", "r=", "r+", "f", "-", "c", " ", "\x00", "\xff", "ä", "z", "count",
		strings.Repeat("set", 100000),
	}
}

// otherMarks are no marks.
func otherMarks() []impl.Mark {
	var list []impl.Mark
	for _, op := range otherOps() {
		list = append(list, impl.Mark{Op: op}, impl.Mark{Op: op, N: 1}, impl.Mark{Op: op, Count: true})
	}
	for _, number := range []int{100001, -100001, 100002, 1 << 31, 1 << 32, -1 << 32, 1<<32 + 1, math.MaxInt, math.MinInt} {
		for _, op := range []string{"set", "add", "fix", ""} {
			list = append(list, impl.Mark{Op: op, N: number}, impl.Mark{Op: op, N: number, Count: true})
		}
	}
	for _, number := range []int{1, -1, 100000, -100000} {
		list = append(list, impl.Mark{N: number}, impl.Mark{N: number, Count: true}, impl.Mark{Op: "fix", N: number})
	}
	return append(list, impl.Mark{Op: "fix"})
}

func TestMarksThatAreValid(t *testing.T) {
	var list []impl.Mark
	for _, number := range []int{0, 1, -1, 99999, 100000, -99999, -100000} {
		for _, op := range []string{"set", "add"} {
			list = append(list, impl.Mark{Op: op, N: number}, impl.Mark{Op: op, N: number, Count: true})
		}
		list = append(list, impl.Mark{Op: "fix", N: number, Count: true})
	}
	list = append(list, impl.Mark{}, impl.Mark{Count: true})
	for _, text := range []string{diamond, loopNet} {
		n := net(text)
		for _, m := range list {
			for i := range 4 {
				marks := make([]impl.Mark, 4)
				marks[i] = m
				if !impl.MarksValid(n, marks) || impl.CountMarks(marks) < 0 {
					t.Errorf("MarksValid(%q, %v) = false, or CountMarks = %d", text, marks, impl.CountMarks(marks))
				}
				if _, _, ok := impl.RunMarks(n, marks, map[string]string{diamond: "ac", loopNet: "abd"}[text]); !ok {
					t.Errorf("RunMarks(%q, %v) = false", text, marks)
				}
			}
		}
	}
}

func checkNoRunMarks(t *testing.T, n impl.Net, marks []impl.Mark, run string) {
	t.Helper()
	if list, done, ok := impl.RunMarks(n, marks, run); len(list) != 0 || done != 0 || ok {
		t.Errorf("RunMarks(%.99v, %.99v, %.99q) = %v, %d, %v", n, marks, run, list, done, ok)
	}
}

// checkOtherMarks expects marks that are not those of a net.
func checkOtherMarks(t *testing.T, n impl.Net, marks []impl.Mark) {
	t.Helper()
	if impl.MarksValid(n, marks) || impl.CheckMarks(n, marks) {
		t.Errorf("of %.99v: MarksValid(%.99v) = %v, CheckMarks = %v", n, marks, impl.MarksValid(n, marks), impl.CheckMarks(n, marks))
	}
	for _, run := range []string{"", "a", "b", "ab", "ac", "bd", "abd", "abc", "abcbd"} {
		checkNoRunMarks(t, n, marks, run)
	}
}

func TestMarksThatAreNotValid(t *testing.T) {
	for _, m := range otherMarks() {
		if impl.CountMarks([]impl.Mark{m}) != -1 || impl.CountMarks([]impl.Mark{{Op: "set", Count: true}, m, {Op: "add", N: 1}}) != -1 {
			t.Errorf("CountMarks of %.99v = %d", m, impl.CountMarks([]impl.Mark{m}))
		}
		// at each edge, also at one that a run does not have
		for i := range 4 {
			for _, text := range []string{diamond, loopNet} {
				marks := make([]impl.Mark, 4)
				marks[i] = m
				checkOtherMarks(t, net(text), marks)
			}
			marks := readMarks("r=0 r=1 -c -c")
			marks[i] = m
			checkOtherMarks(t, net(diamond), marks)
		}
	}
	// too few and too many
	right := readMarks("r=0 r=1 -c -c")
	for _, marks := range [][]impl.Mark{nil, {}, right[:1], right[:3], right[1:], append(slices.Clone(right), impl.Mark{}), slices.Repeat(right, 2), make([]impl.Mark, 3), make([]impl.Mark, 5), make([]impl.Mark, 100000)} {
		checkOtherMarks(t, net(diamond), marks)
		checkOtherMarks(t, net(loopNet), marks)
	}
	for _, number := range []int{0, 1, 3, 16} {
		checkOtherMarks(t, net(pairNet), make([]impl.Mark, number))
	}
}

func TestMarksOfInvalidNets(t *testing.T) {
	for _, n := range invalidNets() {
		for _, marks := range [][]impl.Mark{nil, make([]impl.Mark, len(n.Edges)), slices.Repeat([]impl.Mark{{Op: "fix", Count: true}}, len(n.Edges)), {{Op: "set", Count: true}, {Op: "add", N: 1}}} {
			checkOtherMarks(t, n, marks)
		}
		for _, tree := range []string{"", "a", "b", "c", "ab", "bc", "abcdef", "z"} {
			checkNoMarks(t, n, tree)
		}
		checkNoPlainMarks(t, n)
	}
}

// checkNoMarks expects a net that is not acyclic, or a text that is no tree of it.
func checkNoMarks(t *testing.T, n impl.Net, tree string) {
	t.Helper()
	if marks, ok := impl.TreeMarks(n, tree); len(marks) != 0 || ok {
		t.Errorf("TreeMarks(%.99v, %.99q) = %v, %v", n, tree, marks, ok)
	}
	if marks, ok := impl.LateMarks(n, tree); len(marks) != 0 || ok {
		t.Errorf("LateMarks(%.99v, %.99q) = %v, %v", n, tree, marks, ok)
	}
	if clean, ok := impl.CleanBlocks(n, tree); clean != "" || ok {
		t.Errorf("CleanBlocks(%.99v, %.99q) = %q, %v", n, tree, clean, ok)
	}
}

// checkNoPlainMarks expects a net that is not acyclic, of which no marks count the numbers of all runs.
func checkNoPlainMarks(t *testing.T, n impl.Net) {
	t.Helper()
	if marks, ok := impl.PlainMarks(n); len(marks) != 0 || ok {
		t.Errorf("PlainMarks(%.99v) = %v, %v", n, marks, ok)
	}
	for _, m := range []impl.Mark{{}, {Count: true}, {Op: "set", Count: true}, {Op: "fix", Count: true}} {
		if impl.CheckMarks(n, slices.Repeat([]impl.Mark{m}, len(n.Edges))) {
			t.Errorf("CheckMarks(%.99v) with %v = true", n, m)
		}
	}
}

// TestMarksOfNetsWithWaysBack has trees that are ones, and marks that count one number on each run.
func TestMarksOfNetsWithWaysBack(t *testing.T) {
	for _, c := range allTrees {
		n := net(c.text)
		if impl.IsAcyclic(n) {
			continue
		}
		for _, tree := range c.trees {
			checkNoMarks(t, n, tree)
		}
		checkNoPlainMarks(t, n)
	}
	for text, marks := range map[string]string{loopNet: "r=0 - - -c", selfNet: "r=0 - -c", "ABC: AB BB BC AC": "- - f0c f1c"} {
		n := net(text)
		if !impl.MarksValid(n, readMarks(marks)) || impl.CheckMarks(n, readMarks(marks)) {
			t.Errorf("of %q and %q: MarksValid = %v, CheckMarks = %v", text, marks, impl.MarksValid(n, readMarks(marks)), impl.CheckMarks(n, readMarks(marks)))
		}
	}
}

func TestMarksOfTextsThatAreNoTrees(t *testing.T) {
	for text, trees := range noTrees() {
		for _, tree := range trees {
			checkNoMarks(t, net(text), tree)
		}
	}
	for _, tree := range oddNames() {
		checkNoMarks(t, net(twoTurns), tree)
	}
}

func TestRunMarksOfOtherRuns(t *testing.T) {
	marks := slices.Repeat([]impl.Mark{{Op: "add", N: 1, Count: true}}, 4)
	for _, run := range append(oddNames(), "b", "c", "d", "ad", "bc", "ca", "db", "aa", "acc", "aac", "acbd", "acd", "ac ", " ac", "a c", "ac\n", "ac\x00", "ace", "acz", "zac", "AC", "ABD", "+a+c") {
		checkNoRunMarks(t, net(diamond), marks, run)
	}
	for _, run := range append(oddNames(), "a", "b", "abc", "abcb", "bd", "bcbd", "cbd", "ad", "abdd", "abda", "abcd", "abbd", "abcbdd", "a"+strings.Repeat("bc", 29)+"bd") {
		checkNoRunMarks(t, net(loopNet), marks, run)
	}
	checkNoRunMarks(t, net(pairNet), marks[:2], "ab")
	checkNoRunMarks(t, net(pairNet), marks[:2], "c")
	checkNoRunMarks(t, net(pairNet), marks[:2], "")
}

func TestCheckMarks(t *testing.T) {
	for _, c := range []struct {
		text, marks string
		want        bool
	}{
		{diamond, "r=0 r=1 -c -c", true},
		// other marks that count the same: what is added early or late, counted early or late, and where nothing is set
		{diamond, "- r+1 -c -c", true},
		{diamond, "-c r+1c - -", true},
		{diamond, "f0c f1c - -", true},
		{diamond, "- - -c r=1c", true},
		{diamond, "r=-100000 r=100000 r+100000c r+-99999c", true},
		{diamond, "f0c r=7 r=9 f1c", true},
		{diamond, "-c - - f1c", true},
		// too little
		{diamond, "- - - -", false},
		{diamond, "r=0 r=1 - -", false},
		{diamond, "r=0 r=1 -c -", false},
		{diamond, "r=0 r=1 - -c", false},
		{diamond, "f0c - - -", false},
		// too much, even if it is the same number
		{diamond, "r=0c r=1 -c -c", false},
		{diamond, "r=0 r=1c -c -c", false},
		{diamond, "f0c r=1 f0c -c", false},
		{diamond, "-c - -c f1c", false},
		{diamond, "r=0c r=1c -c -c", false},
		// wrongly: on one run, on both, by 1, the other way round
		{diamond, "r=1 r=1 -c -c", false},
		{diamond, "r=0 r=0 -c -c", false},
		{diamond, "r=0 r=2 -c -c", false},
		{diamond, "r=0 r=-1 -c -c", false},
		{diamond, "r=1 r=2 -c -c", false},
		{diamond, "r=1 r=0 -c -c", false},
		{diamond, "- - -c -c", false},
		{diamond, "r=7 r=7c f0c -", false},
		// one run alone
		{"AB: AB", "-c", true},
		{"AB: AB", "f0c", true},
		{"AB: AB", "r=0c", true},
		{"AB: AB", "r+0c", true},
		{"AB: AB", "-", false},
		{"AB: AB", "r=0", false},
		{"AB: AB", "r=1c", false},
		{"AB: AB", "f-1c", false},
		{chainNet, "- - - - - - -c", true},
		{chainNet, "-c - - - - - -", true},
		{chainNet, "r+1 r+1 r+1 -c r+-1 r+-1 r+-1", false},
		{chainNet, "r+1 r+1 r+1 r+-3c r+-1 r+-1 r+-1", true},
		{chainNet, "-c - - - - - -c", false},
		// only the last run, or the one in the middle, is wrong
		{"HG: HG HG HG HG", "f0c f1c f2c f3c", true},
		{"HG: HG HG HG HG", "f0c f1c f2c f4c", false},
		{"HG: HG HG HG HG", "f0c f1c f1c f3c", false},
		{"HG: HG HG HG HG", "f0c f1c - f3c", false},
		{sixNet, "- r=4 r=0 r=3 r+1 r+-1 -c -c", true},
		{sixNet, "- r=4 r=0 r=3 r+1 r+-1 - -c", false},
		{sixNet, "- r=4 r=0 r=2 r+1 r+-1 -c -c", false},
		{sixNet, "- r=4 - r=3 r+1 r+-1 -c -c", true},
		{sixNet, "-c r=4 r=0 r=3 r+1 r+-1 -c -c", false},
	} {
		if got := impl.CheckMarks(net(c.text), readMarks(c.marks)); got != c.want {
			t.Errorf("CheckMarks(%q, %q) = %v", c.text, c.marks, got)
		}
	}
}

// TestCheckMarksOfManyRuns has the most runs that a net has, 324, of which one alone is counted wrongly. With more edges there
// would be 400 runs and more, but these are no nets.
func TestCheckMarksOfManyRuns(t *testing.T) {
	n := net("ABCDEF: AB AB AB BC BC BC CD CD CD DE DE DE EF EF EF EF")
	plain, _ := impl.PlainMarks(n)
	if text := impl.FormatMarks(plain); text != "r=0 r=108 r=216 - r+36 r+72 - r+12 r+24 - r+4 r+8 -c r+1c r+2c r+3c" || !impl.CheckMarks(n, plain) {
		t.Errorf("PlainMarks = %q, CheckMarks = %v", text, impl.CheckMarks(n, plain))
	}
	for i := range plain {
		for _, m := range []impl.Mark{{}, {Op: "set", N: 7, Count: plain[i].Count}, {Op: "add", N: 1, Count: plain[i].Count}, {Op: "fix", Count: true}} {
			marks := slices.Clone(plain)
			marks[i] = m
			checkJudged(t, n, marks)
		}
	}
	for _, text := range []string{"ABCDE: AB AB AB AB BC BC BC BC CD CD CD CD CD DE DE DE DE DE", "ABCDE: AB AB AB AB BC BC BC BC BC CD CD CD CD CD DE DE DE DE DE"} {
		n := net(text)
		checkNoPlainMarks(t, n)
		checkOtherMarks(t, n, make([]impl.Mark, len(n.Edges)))
	}
}

// TestMemoryOfMarks writes to all results, their unused capacity included, and looks whether an argument or another result changes.
func TestMemoryOfMarks(t *testing.T) {
	edges := append(net(twoTurns).Edges, impl.Edge{From: "X", To: "Y"})
	n := impl.Net{Blocks: "ABCDEFG", Edges: edges[:8]}
	edgesBefore := slices.Clone(edges)
	for i, call := range []func() ([]impl.Mark, bool){
		func() ([]impl.Mark, bool) { return impl.PlainMarks(n) },
		func() ([]impl.Mark, bool) { return impl.TreeMarks(n, "abdef") },
		func() ([]impl.Mark, bool) { return impl.LateMarks(n, "abdef") },
	} {
		one, _ := call()
		two, _ := call()
		want := slices.Clone(two)
		all := one[:cap(one)]
		for j := range all {
			all[j] = impl.Mark{Op: "?", N: -7, Count: true}
		}
		if three, ok := call(); !slices.Equal(two, want) || !slices.Equal(three, want) || !ok {
			t.Errorf("call %d shares memory: %v, %v", i, two, three)
		}
	}
	marks := append(readMarks("r=1c r=2 r+3c - r+-5c - -c r+3c"), impl.Mark{Op: "sub", N: 1 << 40}, impl.Mark{Op: "fix"})
	before := slices.Clone(marks)
	one, _, _ := impl.RunMarks(n, marks[:8], "aceg")
	two, _, _ := impl.RunMarks(n, marks[:8], "aceg")
	all := one[:cap(one)]
	for i := range all {
		all[i] = -7
	}
	three, done, ok := impl.RunMarks(n, marks[:8], "aceg")
	if want := []int{1, 4, -1, -1}; !slices.Equal(two, want) || !slices.Equal(three, want) || done != 7 || !ok {
		t.Errorf("RunMarks shares memory: %v, %v, %d", two, three, done)
	}
	if !impl.MarksValid(n, marks[:8]) || impl.CheckMarks(n, marks[:8]) || impl.CountMarks(marks[:8]) != 10 || impl.FormatMarks(marks[:8]) != "r=1c r=2 r+3c - r+-5c - -c r+3c" {
		t.Errorf("CountMarks = %d, FormatMarks = %q", impl.CountMarks(marks[:8]), impl.FormatMarks(marks[:8]))
	}
	if clean, ok := impl.CleanBlocks(n, "abdef"); clean != "ABC" || !ok {
		t.Errorf("CleanBlocks = %q, %v", clean, ok)
	}
	if !slices.Equal(edges, edgesBefore) || !slices.Equal(marks, before) {
		t.Errorf("the arguments are now %v and %v", edges, marks)
	}
}

// TestNothingGoesOn fails if anything that a call has begun waits for something when it has returned.
func TestNothingGoesOn(t *testing.T) {
	synctest.Test(t, func(t *testing.T) {
		for _, marks := range []string{"r=1c r+2c f3c -c", "- - - -", "- - - -c", "-c - - -", "- - f0", "- -"} {
			for text, run := range map[string]string{diamond: "ac", loopNet: "abcbcbd", pairNet: "b"} {
				impl.RunMarks(net(text), readMarks(marks), run)
				impl.RunMarks(net(text), readMarks(marks), run+"a")
				impl.CheckMarks(net(text), readMarks(marks))
			}
		}
	})
}

// ownIsMark goes by the conditions one by one.
func ownIsMark(m impl.Mark) bool {
	known := slices.Contains([]string{"set", "add", "fix", ""}, m.Op)
	small := -100000 <= m.N && m.N <= 100000
	return known && small && (m.Op != "fix" || m.Count) && (m.Op != "" || m.N == 0)
}

// ownRunMarks follows the register along a run.
func ownRunMarks(marks []impl.Mark, run string) ([]int, int) {
	var counted []int
	register, done := 0, 0
	for i := range len(run) {
		m := marks[run[i]-'a']
		if m.Op == "set" {
			register = 0
		}
		if m.Op == "set" || m.Op == "add" {
			register += m.N
			done++
		}
		if !m.Count {
			continue
		}
		done++
		if m.Op == "fix" {
			counted = append(counted, m.N)
		} else {
			counted = append(counted, register)
		}
	}
	return counted, done
}

// checkRunMarks expects marks of a net and a run of it.
func checkRunMarks(t *testing.T, n impl.Net, marks []impl.Mark, run string) []int {
	t.Helper()
	want, wantDone := ownRunMarks(marks, run)
	list, done, ok := impl.RunMarks(n, marks, run)
	if !slices.Equal(list, want) || done != wantDone || !ok {
		t.Fatalf("RunMarks(%v, %v, %q) = %v, %d, %v, not %v, %d", n, marks, run, list, done, ok, want, wantDone)
	}
	return list
}

// checkJudged holds CheckMarks against what is counted on each run of an acyclic net.
func checkJudged(t *testing.T, n impl.Net, marks []impl.Mark) {
	t.Helper()
	valid := len(marks) == len(n.Edges) && !slices.ContainsFunc(marks, func(m impl.Mark) bool { return !ownIsMark(m) })
	want := valid
	runs, _ := impl.AllRuns(n)
	for number, run := range runs {
		if !valid {
			checkNoRunMarks(t, n, marks, run)
			continue
		}
		counted, _ := ownRunMarks(marks, run)
		want = want && len(counted) == 1 && counted[0] == number
	}
	if impl.MarksValid(n, marks) != valid || impl.CheckMarks(n, marks) != want {
		t.Fatalf("of %v, %v: MarksValid = %v, CheckMarks = %v, not %v, %v", n, marks, impl.MarksValid(n, marks), impl.CheckMarks(n, marks), valid, want)
	}
}

// cleanByPaths goes along all runs; what they begin with are all paths from the entry, as the exit can be come to from each block.
func cleanByPaths(runs []string, n impl.Net, steps []int) string {
	soiled := map[string]bool{}
	for _, run := range runs {
		added := false
		for i := range len(run) {
			edge := run[i] - 'a'
			added = added || steps[edge] != 0
			soiled[n.Edges[edge].To] = soiled[n.Edges[edge].To] || added
		}
	}
	clean := ""
	for _, b := range n.Blocks {
		if !soiled[string(b)] {
			clean += string(b)
		}
	}
	return clean
}

// ownEarly makes the marks that set the register at the entry.
func ownEarly(n impl.Net, amounts []int) []impl.Mark {
	var marks []impl.Mark
	for i, e := range n.Edges {
		m := impl.Mark{Count: strings.HasSuffix(n.Blocks, e.To)}
		if strings.HasPrefix(n.Blocks, e.From) {
			m.Op, m.N = "set", amounts[i]
		} else if amounts[i] != 0 {
			m.Op, m.N = "add", amounts[i]
		}
		marks = append(marks, m)
	}
	return marks
}

// ownLate makes the late marks, by looking at both ends of each edge.
func ownLate(n impl.Net, steps []int, clean string) []impl.Mark {
	marks := make([]impl.Mark, len(n.Edges))
	for i, e := range n.Edges {
		from, to, last := strings.Contains(clean, e.From), strings.Contains(clean, e.To), strings.HasSuffix(n.Blocks, e.To)
		if from && last {
			marks[i] = impl.Mark{Op: "fix", N: steps[i]}
		}
		if from && !to && !last {
			marks[i] = impl.Mark{Op: "set", N: steps[i]}
		}
		if !from && steps[i] != 0 {
			marks[i] = impl.Mark{Op: "add", N: steps[i]}
		}
		marks[i].Count = last
	}
	return marks
}

// checkMarked compares all marks with what their definitions say, and what they count on each run with its number.
func checkMarked(t *testing.T, n impl.Net, tree string, runs []string) {
	t.Helper()
	values := ownValues(n)
	steps := ownSteps(n, tree, values)
	wantClean := cleanByPaths(runs, n, steps)
	plain, one := impl.PlainMarks(n)
	made, two := impl.TreeMarks(n, tree)
	late, three := impl.LateMarks(n, tree)
	clean, four := impl.CleanBlocks(n, tree)
	if !one || !two || !three || !four || clean != wantClean || !slices.Equal(plain, ownEarly(n, values)) || !slices.Equal(made, ownEarly(n, steps)) || !slices.Equal(late, ownLate(n, steps, wantClean)) {
		t.Fatalf("of %v, %q with the steps %v and the clean blocks %q: PlainMarks = %v, TreeMarks = %v, LateMarks = %v, CleanBlocks = %q", n, tree, steps, wantClean, plain, made, late, clean)
	}
	for _, marks := range [][]impl.Mark{plain, made, late} {
		for number, run := range runs {
			counted := checkRunMarks(t, n, marks, run)
			if len(counted) != 1 || counted[0] != number || number != impl.NumberOf(n, run) {
				t.Fatalf("the marks %v of %v count %v on %q, not %d", marks, n, counted, run, number)
			}
		}
		checkWritten(t, n, marks)
		if !impl.CheckMarks(n, marks) {
			t.Fatalf("CheckMarks(%v, %v) = false", n, marks)
		}
	}
}

// checkWritten expects marks of a net, and looks at what is told of them without it.
func checkWritten(t *testing.T, n impl.Net, marks []impl.Mark) {
	t.Helper()
	var words []string
	count := 0
	for _, m := range marks {
		word := "-"
		if m.Op != "" {
			word = fmt.Sprint(map[string]string{"set": "r=", "add": "r+", "fix": "f"}[m.Op], m.N)
		}
		if m.Op == "set" || m.Op == "add" {
			count++
		}
		if m.Count {
			word += "c"
			count++
		}
		words = append(words, word)
	}
	if s := impl.FormatMarks(marks); s != strings.Join(words, " ") || impl.CountMarks(marks) != count || !impl.MarksValid(n, marks) {
		t.Fatalf("of %v, %v: FormatMarks = %q, CountMarks = %d, MarksValid = %v", n, marks, s, impl.CountMarks(marks), impl.MarksValid(n, marks))
	}
}

// checkNearMarks changes each mark in several ways.
func checkNearMarks(t *testing.T, n impl.Net, marks []impl.Mark) {
	t.Helper()
	for i, m := range marks {
		for _, other := range []impl.Mark{
			{Op: m.Op, N: m.N, Count: !m.Count}, {Op: m.Op, N: m.N + 1, Count: m.Count}, {Op: m.Op, N: m.N - 1, Count: m.Count}, {Op: "set", N: m.N, Count: m.Count}, {Op: "add", N: m.N, Count: m.Count},
			{Op: "fix", N: m.N, Count: m.Count}, {N: m.N, Count: m.Count}, {Count: m.Count}, {},
		} {
			changed := slices.Clone(marks)
			changed[i] = other
			checkJudged(t, n, changed)
		}
	}
	checkJudged(t, n, marks[1:])
	checkJudged(t, n, append(slices.Clone(marks), impl.Mark{}))
}

// someMarks makes marks by chance, with small numbers and the greatest ones.
func someMarks(dice *rand.Rand, number int) []impl.Mark {
	marks := make([]impl.Mark, number)
	for i := range marks {
		marks[i] = impl.Mark{Op: []string{"set", "add", "fix", ""}[dice.Intn(4)], N: []int{-100000, -1, 0, 1, 2, 100000}[dice.Intn(6)], Count: dice.Intn(2) == 0}
		switch marks[i].Op {
		case "fix":
			marks[i].Count = true
		case "":
			marks[i].N = 0
		}
	}
	return marks
}

func TestMarksOfSmallNets(t *testing.T) {
	dice := rand.New(rand.NewSource(8))
	smallNets(func(n impl.Net) {
		if hasRound(n) {
			tree, _ := impl.TreeOf(n, make([]int, len(n.Edges)))
			checkNoMarks(t, n, tree)
			checkNoPlainMarks(t, n)
			return
		}
		runs, _ := impl.AllRuns(n)
		treesBySets(n, func(edges string, tree bool) {
			if !tree {
				checkNoMarks(t, n, edges)
				return
			}
			checkMarked(t, n, edges, runs)
			late, _ := impl.LateMarks(n, edges)
			made, _ := impl.TreeMarks(n, edges)
			checkNearMarks(t, n, late)
			checkNearMarks(t, n, made)
		})
		for range 20 {
			checkJudged(t, n, someMarks(dice, len(n.Edges)))
		}
	})
}

func TestMarksOfSomeNets(t *testing.T) {
	dice := rand.New(rand.NewSource(9))
	someNets(250, true, func(n impl.Net) {
		runs, _ := impl.AllRuns(n)
		for range 4 {
			checkMarked(t, n, treeByChance(dice, n), runs)
		}
		tree, _ := impl.TreeOf(n, make([]int, len(n.Edges)))
		late, _ := impl.LateMarks(n, tree)
		checkNearMarks(t, n, late)
	})
}

// TestRunMarksOfSomeNets walks about in nets, most of them with loops.
func TestRunMarksOfSomeNets(t *testing.T) {
	dice := rand.New(rand.NewSource(10))
	someNets(1500, false, func(n impl.Net) {
		run := walkByChance(dice, n)
		marks := someMarks(dice, len(n.Edges))
		checkRunMarks(t, n, marks, run)
		checkWritten(t, n, marks)
		if hasRound(n) {
			tree, _ := impl.TreeOf(n, make([]int, len(n.Edges)))
			checkNoMarks(t, n, tree)
			checkNoPlainMarks(t, n)
		}
	})
}
