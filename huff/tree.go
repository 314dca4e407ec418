package huff

import (
	"cmp"
	"slices"
)

// node is one of the tree of counts.
type node struct {
	weight int
	in     int // the node that it stands in; the last one stands in none
}

// depths are how deep the symbols are in the tree of counts; 0, if they are not in it.
func depths(counts []int) []int {
	deep := make([]int, len(counts))
	symbols := byCount(counts)
	if len(symbols) == 1 {
		deep[symbols[0]] = 1
		return deep
	}
	nodes := tree(symbols, counts)
	below := make([]int, len(nodes))
	// A node was there ahead of the one it stands in, so this is known first on the way down.
	for i := len(nodes) - 2; i >= 0; i-- {
		below[i] = below[nodes[i].in] + 1
	}
	for i, s := range symbols {
		deep[s] = below[i]
	}
	return deep
}

// byCount are the symbols that come, by how often, of alike ones by symbol.
func byCount(counts []int) []int {
	var symbols []int
	for s, c := range counts {
		if c > 0 {
			symbols = append(symbols, s)
		}
	}
	slices.SortStableFunc(symbols, func(a, b int) int { return cmp.Compare(counts[a], counts[b]) })
	return symbols
}

// tree is the nodes of the symbols, in the same order, and behind them the pairs, as they were made.
func tree(symbols, counts []int) []node {
	nodes := make([]node, 0, 2*len(symbols))
	for _, s := range symbols {
		nodes = append(nodes, node{weight: counts[s]})
	}
	leaf, pair := 0, len(symbols)
	// Pairs are made in the order of their weights, so the least one is the first symbol or the first pair that is left; of alike ones the symbol was there first.
	take := func() int {
		if pair == len(nodes) || leaf < len(symbols) && nodes[leaf].weight <= nodes[pair].weight {
			leaf++
			return leaf - 1
		}
		pair++
		return pair - 1
	}
	for range len(symbols) - 1 {
		a, b := take(), take()
		nodes[a].in, nodes[b].in = len(nodes), len(nodes)
		nodes = append(nodes, node{weight: nodes[a].weight + nodes[b].weight})
	}
	return nodes
}

// flatten brings the counts nearer to each other, so that their tree is less deep in the end: all come to be 1 or 2.
func flatten(counts []int) {
	for s, c := range counts {
		if c > 0 {
			counts[s] = c/2 + 1
		}
	}
}
