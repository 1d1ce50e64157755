package impl

import (
	"errors"
	"iter"
	"slices"
	"strings"
)

// Limits of nets.
const (
	MaxBlocks = 8
	MaxEdges  = 16
)

// An Edge leads from a block to a block.
type Edge struct {
	From string
	To   string
}

// A Net has blocks, the entry first and the exit last, and edges.
type Net struct {
	Blocks string
	Edges  []Edge
}

var (
	errText = errors.New("not written as a net is")
	errNet  = errors.New("not a valid net")
)

// ends are the letters of both blocks of an edge, an array so that a map can have them as keys.
type ends [2]byte

// A node is a block that points to those to which edges lead from it.
type node struct {
	block  byte
	behind []*node
}

// NetValid reports whether a net is valid.
func NetValid(n Net) bool {
	return blocksValid(n.Blocks) && edgesValid(n) && reachesAll(n) && reachesAll(turned(n))
}

// FormatNet returns the text of a net.
func FormatNet(n Net) string {
	if !NetValid(n) {
		return ""
	}
	var text strings.Builder
	text.WriteString(n.Blocks)
	text.WriteByte(':')
	for _, e := range n.Edges {
		text.WriteByte(' ')
		text.WriteString(e.From)
		text.WriteString(e.To)
	}
	return text.String()
}

// ParseNet parses the text of a net.
func ParseNet(text string) (Net, bool) {
	n, err := readNet(text)
	return n, err == nil
}

// NamesOf returns the names of all edges.
func NamesOf(n Net) (string, bool) {
	if !NetValid(n) {
		return "", false
	}
	return namesWhere(n, func(int) bool { return true }), true
}

// OutOf returns the edges that leave a block.
func OutOf(n Net, block string) (string, bool) {
	if !NetValid(n) || blockIndex(n, block) < 0 {
		return "", false
	}
	return namesWhere(n, func(i int) bool { return n.Edges[i].From == block }), true
}

// InOf returns the edges that come to a block.
func InOf(n Net, block string) (string, bool) {
	if !NetValid(n) || blockIndex(n, block) < 0 {
		return "", false
	}
	return namesWhere(n, func(i int) bool { return n.Edges[i].To == block }), true
}

// EndsOf returns both ends of an edge.
func EndsOf(n Net, edge string) (string, bool) {
	i := edgeIndex(n, edge)
	if !NetValid(n) || i < 0 {
		return "", false
	}
	return n.Edges[i].From + n.Edges[i].To, true
}

// TurnNet returns a net with all edges turned round.
func TurnNet(n Net) (Net, bool) {
	if !NetValid(n) {
		return Net{}, false
	}
	return turned(n), true
}

// DropEdge returns a net without an edge.
func DropEdge(n Net, edge string) (Net, bool) {
	i := edgeIndex(n, edge)
	if !NetValid(n) || i < 0 {
		return Net{}, false
	}
	rest := without(n, i)
	if !NetValid(rest) {
		return Net{}, false
	}
	return rest, true
}

// BridgesOf returns the edges without which there is no way through.
func BridgesOf(n Net) (string, bool) {
	if !NetValid(n) {
		return "", false
	}
	return namesWhere(n, func(i int) bool { return !reachesExit(without(n, i)) }), true
}

func blocksValid(blocks string) bool {
	if len(blocks) < 2 || len(blocks) > MaxBlocks {
		return false
	}
	for i := range len(blocks) {
		b := blocks[i]
		if b < 'A' || b > 'H' || strings.IndexByte(blocks, b) < i {
			return false
		}
	}
	return true
}

// edgesValid expects valid blocks.
func edgesValid(n Net) bool {
	if len(n.Edges) > MaxEdges {
		return false
	}
	entry, exit := 0, len(n.Blocks)-1
	for _, e := range n.Edges {
		from, to := blockIndex(n, e.From), blockIndex(n, e.To)
		if from < 0 || to < 0 || from == exit || to == entry {
			return false
		}
	}
	return true
}

// blockIndex returns the place of a block in Blocks, -1 if it is none.
func blockIndex(n Net, block string) int {
	if len(block) != 1 {
		return -1
	}
	return strings.IndexByte(n.Blocks, block[0])
}

// edgeIndex returns the place of an edge in Edges, -1 if it is none.
func edgeIndex(n Net, edge string) int {
	if len(edge) != 1 || edge[0] < 'a' || int(edge[0]-'a') >= len(n.Edges) {
		return -1
	}
	return int(edge[0] - 'a')
}

// namesWhere returns the names of the edges whose place is kept.
func namesWhere(n Net, keep func(i int) bool) string {
	var names strings.Builder
	for i := range n.Edges {
		if keep(i) {
			names.WriteByte(byte('a' + i))
		}
	}
	return names.String()
}

// nodesOf returns the nodes of the blocks, in their order. Edges with the same ends make one pointer, as more of them lead nowhere else.
func nodesOf(n Net) []*node {
	nodes := make([]*node, len(n.Blocks))
	for i := range nodes {
		nodes[i] = &node{block: n.Blocks[i]}
	}
	joined := map[ends]bool{}
	for _, e := range n.Edges {
		pair := ends{e.From[0], e.To[0]}
		if joined[pair] {
			continue
		}
		joined[pair] = true
		from, to := nodes[blockIndex(n, e.From)], nodes[blockIndex(n, e.To)]
		from.behind = append(from.behind, to)
	}
	return nodes
}

// reachedFrom yields each block that can be come to from one, which is itself the first.
func reachedFrom(start *node) iter.Seq[byte] {
	return func(yield func(byte) bool) {
		met := map[byte]bool{start.block: true}
		queue := []*node{start}
		for len(queue) > 0 {
			here := queue[0]
			queue = queue[1:]
			if !yield(here.block) {
				return
			}
			for _, next := range here.behind {
				if !met[next.block] {
					met[next.block] = true
					queue = append(queue, next)
				}
			}
		}
	}
}

// reachesAll and reachesExit look from the entry on, along edges whose ends are blocks of the net.
func reachesAll(n Net) bool {
	count := 0
	for range reachedFrom(nodesOf(n)[0]) {
		count++
	}
	return count == len(n.Blocks)
}

func reachesExit(n Net) bool {
	exit := n.Blocks[len(n.Blocks)-1]
	for block := range reachedFrom(nodesOf(n)[0]) {
		if block == exit {
			return true
		}
	}
	return false
}

// turned needs no valid net, because NetValid uses it to find from where the exit can be come to.
func turned(n Net) Net {
	blocks := []byte(n.Blocks)
	slices.Reverse(blocks)
	edges := make([]Edge, len(n.Edges))
	for i, e := range n.Edges {
		edges[i] = Edge{From: e.To, To: e.From}
	}
	return Net{Blocks: string(blocks), Edges: edges}
}

// without may return a net that is not valid: which one is needed, callers decide.
func without(n Net, i int) Net {
	edges := make([]Edge, 0, len(n.Edges)-1)
	edges = append(edges, n.Edges[:i]...)
	edges = append(edges, n.Edges[i+1:]...)
	return Net{Blocks: n.Blocks, Edges: edges}
}

func readNet(text string) (Net, error) {
	blocks, rest, found := strings.Cut(text, ":")
	if !found {
		return Net{}, errText
	}
	edges, err := readEdges(rest)
	if err != nil {
		return Net{}, err
	}
	n := Net{Blocks: blocks, Edges: edges}
	if !NetValid(n) {
		return Net{}, errNet
	}
	return n, nil
}

// readEdges reads three bytes an edge; whether the letters are blocks is seen when the net is there.
func readEdges(text string) ([]Edge, error) {
	if len(text) > 3*MaxEdges || len(text)%3 != 0 {
		return nil, errText
	}
	var edges []Edge
	for at := 0; at < len(text); at += 3 {
		if text[at] != ' ' {
			return nil, errText
		}
		edges = append(edges, Edge{From: text[at+1 : at+2], To: text[at+2 : at+3]})
	}
	return edges, nil
}
