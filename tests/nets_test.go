package tests

import (
	"regexp"
	"slices"
	"strings"
	"testing"

	"loop.example/pathcounts/impl"
)

// net reads a text without ParseNet, so that nets that are not valid can be written as texts too.
func net(text string) impl.Net {
	blocks, rest, _ := strings.Cut(text, ":")
	n := impl.Net{Blocks: blocks}
	for _, pair := range strings.Fields(rest) {
		n.Edges = append(n.Edges, impl.Edge{From: pair[:1], To: pair[1:]})
	}
	return n
}

func isZero(n impl.Net) bool {
	return n.Blocks == "" && len(n.Edges) == 0
}

func sameNet(a, b impl.Net) bool {
	return a.Blocks == b.Blocks && slices.Equal(a.Edges, b.Edges)
}

var validTexts = []string{
	"AB: AB",
	"HG: HG",
	"AB: AB AB AB",
	"ABC: AB BC",
	"CAB: CA AB",
	"ABC: AB BB BC",
	"ABC: AB BB BB BC BB",
	"AHD: AH AH HD",
	"ABCD: AB AC BD CD",
	"ABCD: AB BC CB CD",
	"ABCD: CD CB BC AB AD",
	"ABCDEF: AB AC BC BD CD DE DF EF",
	"ABCDEFG: AB AC BD CD DE DF EG FG",
	"ABCDEFGH: AB BC CD DE EF FG GH",
	"HGFEDCBA: HG HF HE HD HC HB GA FA EA DA CA BA",
	"AB:" + strings.Repeat(" AB", 16),
	"ABCDEFGH: AB AC AD BE CE DE EF EG FH GH FF GF EE BC",
	"ABCDEFGH: AB BC CD DE EF FG GH AH BB CC DD EE FF GG GB AE",
}

var invalidTexts = []string{
	// blocks: too few, too many, no letters from A to H, the same ones
	":", "A:", "A: AA", ": AB", "AB:", "ABC:",
	"AI: AI", "IA: IA", "ab: ab", "A@: A@", "A1: A1", "AA: AA", "ABA: AB BA", "ABBC: AB BC",
	"ABCDEFGHI: AB BC CD DE EF FG GH HI",
	"ABCDEFGHA: AB BC CD DE EF FG GH",
	"ABCDEFGHH: AB BC CD DE EF FG GH",
	// edges: too many, ends that are no blocks
	"AB:" + strings.Repeat(" AB", 17),
	"AB: AB AC", "AB: AB CB", "AB: AB ab", "AB: AB A@",
	// edges to the entry or from the exit
	"AB: BA", "AB: AB BA", "AB: AB AA", "AB: AB BB", "ABC: AB BC BA", "ABC: AB BC CB", "ABC: AB BC CC", "ABC: AB BC AA",
	// blocks that can't be come to
	"ABC: AC", "ABC: AC BC", "ABC: AC BB BC", "ABCD: AD BC CB BD", "ABCDE: AE BC CD DB DE",
	// blocks from which the exit can't be come to
	"ABC: AC AB", "ABC: AC AB BB", "ABCD: AD AB BC CB", "ABCDE: AB BE BC CD DC",
	// no way through at all
	"ABC: AB", "ABC: BC", "ABC: AB BB", "ABCD: AB CD",
}

// oddNets can't be written as texts of nets.
func oddNets() []impl.Net {
	pair := func(from, to string) []impl.Edge { return []impl.Edge{{From: "A", To: "B"}, {From: from, To: to}} }
	return []impl.Net{
		{},
		{Edges: pair("A", "B")},
		{Blocks: "AB", Edges: pair("", "B")},
		{Blocks: "AB", Edges: pair("A", "")},
		{Blocks: "AB", Edges: pair("", "")},
		{Blocks: "AB", Edges: pair("AB", "B")},
		{Blocks: "AB", Edges: pair("A", "BB")},
		{Blocks: "AB", Edges: pair("A ", "B")},
		{Blocks: "AB", Edges: pair("AB", "AB")},
		{Blocks: "AB", Edges: pair("A", "\xff")},
		{Blocks: "A\xff", Edges: []impl.Edge{{From: "A", To: "\xff"}}},
		{Blocks: "A\x00", Edges: []impl.Edge{{From: "A", To: "\x00"}}},
		{Blocks: "AÄ", Edges: []impl.Edge{{From: "A", To: "Ä"}}},
		{Blocks: "A B", Edges: pair("A", "B")},
		{Blocks: strings.Repeat("AB", 100000), Edges: pair("A", "B")},
		{Blocks: "AB", Edges: slices.Repeat(pair("A", "B"), 100000)},
	}
}

func invalidNets() []impl.Net {
	list := oddNets()
	for _, text := range invalidTexts {
		list = append(list, net(text))
	}
	return list
}

func TestValidNets(t *testing.T) {
	for _, text := range validTexts {
		n := net(text)
		if !impl.NetValid(n) {
			t.Errorf("NetValid(%q) = false", text)
		}
		if s := impl.FormatNet(n); s != text {
			t.Errorf("FormatNet(%q) = %q", text, s)
		}
		if m, ok := impl.ParseNet(text); !ok || !sameNet(m, n) {
			t.Errorf("ParseNet(%q) = %v, %v", text, m, ok)
		}
	}
}

func TestInvalidNets(t *testing.T) {
	for _, n := range invalidNets() {
		if impl.NetValid(n) {
			t.Errorf("NetValid(%.99v) = true", n)
		}
		if s := impl.FormatNet(n); s != "" {
			t.Errorf("FormatNet(%.99v) = %q", n, s)
		}
		for _, name := range []string{"A", "B", "", "AB", "a", "b"} {
			for i, f := range []func(impl.Net, string) (string, bool){impl.OutOf, impl.InOf, impl.EndsOf} {
				if s, ok := f(n, name); s != "" || ok {
					t.Errorf("function %d of %.99v and %q = %q, %v", i, n, name, s, ok)
				}
			}
			if m, ok := impl.DropEdge(n, name); !isZero(m) || ok {
				t.Errorf("DropEdge(%.99v, %q) = %v, %v", n, name, m, ok)
			}
		}
		names, namesOK := impl.NamesOf(n)
		bridges, bridgesOK := impl.BridgesOf(n)
		turned, turnedOK := impl.TurnNet(n)
		if names != "" || namesOK || bridges != "" || bridgesOK || !isZero(turned) || turnedOK {
			t.Errorf("of %.99v: NamesOf = %q, BridgesOf = %q, TurnNet = %v", n, names, bridges, turned)
		}
	}
}

// TestDropEdgeToValid has a net that is valid only once an edge is dropped: it has none to drop.
func TestDropEdgeToValid(t *testing.T) {
	for text, edge := range map[string]string{"AB: AB BA": "b", "AB: AB AA": "b", "AB:" + strings.Repeat(" AB", 17): "q"} {
		if m, ok := impl.DropEdge(net(text), edge); !isZero(m) || ok {
			t.Errorf("DropEdge(%q, %q) = %v, %v", text, edge, m, ok)
		}
	}
}

func TestParseNetOfOtherTexts(t *testing.T) {
	texts := append([]string{
		"", " ", ":", "AB", "AB AB", "AB:AB", "AB:  AB", "AB : AB", " AB: AB", "AB: AB ", "AB: AB\n", "AB: A B", "AB: ABB", "AB: AB A", "AB: AB  AB",
		"AB:: AB", "AB: AB:", "AB: AB: AB", "AB:\tAB", "AB: AB,AB", "AB: ab", "ab: AB", "A B: AB", "\x00AB: AB", "AB: A\xff", "AB: \xff\xff", "AB: AÄ",
		"AB: AB\x00", strings.Repeat("AB: AB", 50000), "AB:" + strings.Repeat(" AB", 100000),
	}, invalidTexts...)
	for _, text := range texts {
		if n, ok := impl.ParseNet(text); !isZero(n) || ok {
			t.Errorf("ParseNet(%.99q) = %.99v, %v", text, n, ok)
		}
	}
}

func TestEdgesOfBlocks(t *testing.T) {
	n := net("CABH: CA CA AB BA BB AH BH CH BB")
	for block, want := range map[string][2]string{"C": {"abh", ""}, "A": {"cf", "abd"}, "B": {"degi", "cei"}, "H": {"", "fgh"}} {
		if s, ok := impl.OutOf(n, block); s != want[0] || !ok {
			t.Errorf("OutOf(%q) = %q, %v", block, s, ok)
		}
		if s, ok := impl.InOf(n, block); s != want[1] || !ok {
			t.Errorf("InOf(%q) = %q, %v", block, s, ok)
		}
	}
	for _, block := range []string{"", "D", "a", "AB", "CA", "CABH", "A ", "@", "I", "\x00", "\xc3", "Ä"} {
		if s, ok := impl.OutOf(n, block); s != "" || ok {
			t.Errorf("OutOf(%q) = %q, %v", block, s, ok)
		}
		if s, ok := impl.InOf(n, block); s != "" || ok {
			t.Errorf("InOf(%q) = %q, %v", block, s, ok)
		}
	}
}

func TestNamesAndEnds(t *testing.T) {
	n := net("ABCDEFGH: AB BC CD DE EF FG GH AH BB CC DD EE FF GG GB AE")
	if s, ok := impl.NamesOf(n); s != "abcdefghijklmnop" || !ok {
		t.Errorf("NamesOf = %q, %v", s, ok)
	}
	if s, ok := impl.NamesOf(net("AB: AB")); s != "a" || !ok {
		t.Errorf("NamesOf = %q, %v", s, ok)
	}
	for edge, want := range map[string]string{"a": "AB", "h": "AH", "i": "BB", "o": "GB", "p": "AE"} {
		if s, ok := impl.EndsOf(n, edge); s != want || !ok {
			t.Errorf("EndsOf(%q) = %q, %v", edge, s, ok)
		}
	}
	for _, edge := range []string{"", "q", "z", "{", "`", "A", "ab", "a ", "\x00", "\xe1", "ä"} {
		if s, ok := impl.EndsOf(n, edge); s != "" || ok {
			t.Errorf("EndsOf(%q) = %q, %v", edge, s, ok)
		}
		if m, ok := impl.DropEdge(n, edge); !isZero(m) || ok {
			t.Errorf("DropEdge(%q) = %v, %v", edge, m, ok)
		}
	}
	if s, ok := impl.EndsOf(net("AB: AB"), "b"); s != "" || ok {
		t.Errorf("EndsOf = %q, %v", s, ok)
	}
}

func TestTurnNet(t *testing.T) {
	for text, want := range map[string]string{
		"AB: AB":               "BA: BA",
		"ABC: AB AB BB BC":     "CBA: BA BA BB CB",
		"CABH: CA AB BA AH CH": "HBAC: AC BA AB HA HC",
	} {
		if m, ok := impl.TurnNet(net(text)); !sameNet(m, net(want)) || !ok {
			t.Errorf("TurnNet(%q) = %v, %v", text, m, ok)
		}
	}
}

func TestDropEdge(t *testing.T) {
	for text, wants := range map[string][]string{
		"AB: AB":           {""},
		"AB: AB AB":        {"AB: AB", "AB: AB"},
		"ABC: AB BB BC AC": {"", "ABC: AB BC AC", "", "ABC: AB BB BC"},
		"AHD: AH AH HD AD": {"AHD: AH HD AD", "AHD: AH HD AD", "", "AHD: AH AH HD"},
		// without c or d there is a way through, but none to C or from B
		"ABCD: AB BD BC CD":               {"", "ABCD: AB BC CD", "", ""},
		"AB:" + strings.Repeat(" AB", 16): slices.Repeat([]string{"AB:" + strings.Repeat(" AB", 15)}, 16),
	} {
		for i, want := range wants {
			m, ok := impl.DropEdge(net(text), string(rune('a'+i)))
			if !sameNet(m, net(want)) || ok != (want != "") {
				t.Errorf("DropEdge(%q, %d) = %v, %v", text, i, m, ok)
			}
		}
	}
}

func TestBridgesOf(t *testing.T) {
	for text, want := range map[string]string{
		"AB: AB":                         "a",
		"AB: AB AB":                      "",
		"ABC: AB BB BC":                  "ac",
		"AHD: AH AH HD":                  "c",
		"ABCD: AB AC BD CD":              "",
		"ABCD: AB BC CB CD":              "abd",
		"ABCD: CD CB BC AB":              "acd",
		"ABCD: AB BD BC CD":              "a", // c and d are needed to come to C, but not to the exit
		"ABCDE: AB AC BD CD DE":          "e",
		"ABCDEFGH: AB BC CD DE EF FG GH": "abcdefg",
	} {
		if s, ok := impl.BridgesOf(net(text)); s != want || !ok {
			t.Errorf("BridgesOf(%q) = %q, %v", text, s, ok)
		}
	}
}

// TestMemory writes to all results, their unused capacity included, and looks whether an argument or another result changes.
func TestMemory(t *testing.T) {
	text := "ABCD: AB AC BD CD AD"
	spare := append(net(text).Edges, impl.Edge{From: "X", To: "Y"}, impl.Edge{From: "Z", To: "Z"})
	n := impl.Net{Blocks: "ABCD", Edges: spare[:5]}
	before := slices.Clone(spare)
	calls := []func() (impl.Net, bool){
		func() (impl.Net, bool) { return impl.ParseNet(text) },
		func() (impl.Net, bool) { return impl.TurnNet(n) },
		func() (impl.Net, bool) { return impl.DropEdge(n, "e") },
	}
	for i, call := range calls {
		one, _ := call()
		two, _ := call()
		want := slices.Clone(two.Edges)
		all := one.Edges[:cap(one.Edges)]
		for j := range all {
			all[j] = impl.Edge{From: "?", To: "?"}
		}
		if three, ok := call(); !slices.Equal(two.Edges, want) || !slices.Equal(three.Edges, want) || !ok {
			t.Errorf("call %d shares memory with another: %v, %v", i, two, three)
		}
	}
	for _, edge := range []string{"a", "c", "e"} {
		impl.DropEdge(n, edge)
		impl.EndsOf(n, edge)
	}
	impl.BridgesOf(n)
	impl.NamesOf(n)
	impl.FormatNet(n)
	impl.OutOf(n, "A")
	impl.InOf(n, "A")
	if !slices.Equal(spare, before) {
		t.Errorf("the argument is now %v", spare)
	}
}

// comes tells, by joining ways until nothing is new, from which block which block can be come to.
func comes(n impl.Net, left int) [256][256]bool {
	var way [256][256]bool
	for i := range len(n.Blocks) {
		way[n.Blocks[i]][n.Blocks[i]] = true
	}
	for i, e := range n.Edges {
		if i != left {
			way[e.From[0]][e.To[0]] = true
		}
	}
	for k := 'A'; k <= 'H'; k++ {
		for i := 'A'; i <= 'H'; i++ {
			for j := 'A'; j <= 'H'; j++ {
				way[i][j] = way[i][j] || way[i][k] && way[k][j]
			}
		}
	}
	return way
}

// looksValid judges nets that have different letters from A to H as blocks and edges between these.
func looksValid(n impl.Net) bool {
	entry, exit := n.Blocks[0], n.Blocks[len(n.Blocks)-1]
	for _, e := range n.Edges {
		if e.To[0] == entry || e.From[0] == exit {
			return false
		}
	}
	way := comes(n, -1)
	for i := range len(n.Blocks) {
		if !way[entry][n.Blocks[i]] || !way[n.Blocks[i]][exit] {
			return false
		}
	}
	return len(n.Edges) <= 16
}

// checkNet compares the functions of nets with what their definitions say.
func checkNet(t *testing.T, n impl.Net) {
	valid := looksValid(n)
	text := impl.FormatNet(n)
	if impl.NetValid(n) != valid || (text != "") != valid {
		t.Fatalf("NetValid(%v) = %v", n, !valid)
	}
	if !valid {
		return
	}
	if m, ok := impl.ParseNet(text); !ok || !sameNet(m, n) {
		t.Fatalf("ParseNet(%q) = %v", text, m)
	}
	once, _ := impl.TurnNet(n)
	if twice, ok := impl.TurnNet(once); !looksValid(once) || !ok || !sameNet(twice, n) {
		t.Fatalf("TurnNet(%v) = %v", n, once)
	}
	bridges := ""
	for i := range n.Edges {
		name := string(rune('a' + i))
		if !comes(n, i)[n.Blocks[0]][n.Blocks[len(n.Blocks)-1]] {
			bridges += name
		}
		want := impl.Net{Blocks: n.Blocks, Edges: slices.Delete(slices.Clone(n.Edges), i, i+1)}
		dropped := looksValid(want)
		if !dropped {
			want = impl.Net{}
		}
		if m, ok := impl.DropEdge(n, name); ok != dropped || !sameNet(m, want) {
			t.Fatalf("DropEdge(%v, %q) = %v, %v", n, name, m, ok)
		}
	}
	if s, ok := impl.BridgesOf(n); s != bridges || !ok {
		t.Fatalf("BridgesOf(%v) = %q, not %q", n, s, bridges)
	}
}

// netsOf calls check for the net of each set of some edges, valid or not.
func netsOf(blocks string, edges []impl.Edge, check func(n impl.Net)) {
	for set := range 1 << len(edges) {
		n := impl.Net{Blocks: blocks}
		for i, e := range edges {
			if set>>i&1 == 1 {
				n.Edges = append(n.Edges, e)
			}
		}
		check(n)
	}
}

// TestAllSmallNets goes through all sets of different edges between 2 or 3 blocks, and those between 4 that spare the entry and the exit.
func TestAllSmallNets(t *testing.T) {
	for _, blocks := range []string{"BA", "CAB", "ABCD"} {
		var pairs []impl.Edge
		for _, from := range blocks {
			for _, to := range blocks {
				if len(blocks) < 4 || to != 'A' && from != 'D' {
					pairs = append(pairs, impl.Edge{From: string(from), To: string(to)})
				}
			}
		}
		netsOf(blocks, pairs, func(n impl.Net) { checkNet(t, n) })
	}
}

// TestNearTexts changes each place of some texts in several ways; what is read then has to be written so, and what is written so has to be read.
func TestNearTexts(t *testing.T) {
	shape := regexp.MustCompile(`^([A-H]{2,8}):( [A-H][A-H])*$`)
	expected := func(text string) bool {
		if !shape.MatchString(text) || strings.HasSuffix(text, "\n") {
			return false
		}
		n := net(text)
		for i := range len(n.Blocks) {
			if strings.Count(n.Blocks, n.Blocks[i:i+1]) > 1 {
				return false
			}
		}
		for _, e := range n.Edges {
			if !strings.Contains(n.Blocks, e.From) || !strings.Contains(n.Blocks, e.To) {
				return false
			}
		}
		return looksValid(n)
	}
	check := func(text string) {
		n, ok := impl.ParseNet(text)
		if ok != expected(text) || ok && impl.FormatNet(n) != text || !ok && !isZero(n) {
			t.Fatalf("ParseNet(%q) = %v, %v", text, n, ok)
		}
	}
	for _, text := range validTexts {
		for at := range len(text) + 1 {
			check(text[:at])
			check(text[at:])
			for _, put := range []string{"", " ", ":", "\n", "\x00", "\xff", "A", "B", "C", "D", "H", "I", "a", " AB", " BC", " BB", "AB"} {
				check(text[:at] + put + text[at:])
				if at < len(text) {
					check(text[:at] + put + text[at+1:])
				}
			}
		}
	}
}
