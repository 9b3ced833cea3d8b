package phrase

import (
	"cmp"
	"slices"

	"gatewicket/api"
)

// Make: the tree of the words' beginnings (P13).
func Make(words []string) ([]api.Node, api.Errno) {
	if e := checkWords(words); e != api.OK {
		return nil, e
	}
	t, kids := grown(words)
	if len(t) > api.MaxTrie {
		return nil, api.ErrLarge
	}
	setFails(t, kids)
	addEndsOfFails(t)
	return t, api.OK
}

func checkWords(words []string) api.Errno {
	if len(words) > api.MaxWords {
		return api.ErrLarge
	}
	shortest := api.MaxWord
	for _, word := range words {
		if len(word) > api.MaxWord {
			return api.ErrLarge
		}
		shortest = min(shortest, len(word))
	}
	if len(words) == 0 || shortest == 0 {
		return api.ErrArg
	}
	return api.OK
}

// grown answers the nodes without their Fails; their Ends are the words that
// they are themselves. It grows all words by a byte at a time, as nodes are
// numbered by their length first.
func grown(words []string) ([]api.Node, children) {
	t := []api.Node{{}}
	kids := children{}
	at := make([]int, len(words))
	for depth := range api.MaxWord {
		for _, s := range stepsAt(words, at, depth) {
			kids[s] = len(t)
			t = append(t, api.Node{Byte: s.by, Up: s.from})
		}
		for i, word := range words {
			if depth < len(word) {
				at[i] = kids[step{at[i], word[depth]}]
			}
		}
	}
	for i, node := range at {
		t[node].Ends = append(t[node].Ends, i)
	}
	return t, kids
}

// stepsAt lists the steps that the words take by their bytes at depth, each
// once, in the order in which their nodes are numbered.
func stepsAt(words []string, at []int, depth int) []step {
	var steps []step
	for i, word := range words {
		if depth < len(word) {
			steps = append(steps, step{at[i], word[depth]})
		}
	}
	slices.SortFunc(steps, compareSteps)
	return slices.Compact(steps)
}

func compareSteps(a, b step) int {
	if a.from != b.from {
		return cmp.Compare(a.from, b.from)
	}
	return cmp.Compare(a.by, b.by)
}

// setFails goes from short nodes to long ones: the longest end of a node is
// its byte behind an end of its parent, and those are known by then.
func setFails(t []api.Node, kids children) {
	for i, node := range t {
		// A node of one byte would find itself as that child of node 0.
		if node.Up != 0 {
			t[i].Fail = next(t, kids, t[node.Up].Fail, node.Byte)
		}
	}
}

// addEndsOfFails makes each list anew, so that no two nodes share one (P2).
func addEndsOfFails(t []api.Node) {
	for i, node := range t {
		ends := slices.Concat(node.Ends, t[node.Fail].Ends)
		slices.Sort(ends)
		t[i].Ends = ends
	}
}
