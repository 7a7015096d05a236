package ctree

import "abridger/api"

// part of a node: all that is before the end of its Kids, or what is after.
type part struct {
	node *api.CNode
	last bool
}

// Tokens returns the tokens of nodes.
func Tokens(l []api.CNode) []api.CTok {
	var out []api.CTok
	// What has not been written, the first one last. (Nodes may be nested
	// deeper than a call may be.)
	todo := push(nil, l)
	for len(todo) > 0 {
		p := todo[len(todo)-1]
		todo = todo[:len(todo)-1]
		if p.last {
			out = appendLast(out, p.node)
			continue
		}
		out = appendFirst(out, p.node)
		todo = append(todo, part{p.node, true})
		if p.node.Kind == api.NRule {
			todo = push(todo, p.node.Kids)
		}
	}
	return out
}

// push puts nodes at the front of what is to be written.
func push(todo []part, l []api.CNode) []part {
	for i := len(l) - 1; i >= 0; i-- {
		todo = append(todo, part{&l[i], false})
	}
	return todo
}

// appendFirst appends the tokens of a node before its Kids.
func appendFirst(out []api.CTok, n *api.CNode) []api.CTok {
	out = append(out, n.Head...)
	switch {
	case n.Kind == api.NDecl:
		out = append(out, api.CTok{Kind: api.CColon, From: n.At})
		return append(out, n.Tail...)
	case n.Kind == api.NRule && n.Open:
		return append(out, api.CTok{Kind: api.COpen, From: n.At})
	}
	return out
}

// appendLast appends the tokens of a node after its Kids.
func appendLast(out []api.CTok, n *api.CNode) []api.CTok {
	if n.Kind == api.NRule && n.Shut {
		out = append(out, api.CTok{Kind: api.CClose, From: n.Last})
	}
	if n.Semi {
		out = append(out, api.CTok{Kind: api.CSemi, From: n.Last})
	}
	return out
}
