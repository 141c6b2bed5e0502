package shaft

import "bolster/api"

// node is a node of a proof, with those to which it leads.
type node interface {
	// refutes reports whether the node proves that a shaft has no schedule.
	refutes(s shaft) bool
}

// split is a node that tells whether a job begins at a time or earlier, or later.
type split struct {
	job, at     int
	left, right node
}

func (n split) refutes(s shaft) bool {
	j := s.Jobs[n.job]
	return n.at >= j.From && n.at < latest(j) &&
		n.left.refutes(s.until(n.job, n.at)) && n.right.refutes(s.after(n.job, n.at))
}

// energy is a node that tells of an overfull interval.
type energy struct {
	from, to int
}

func (n energy) refutes(s shaft) bool { return s.isOverfull(n.from, n.to) }

// late is a node that tells of an order that cannot be kept.
type late struct {
	order int
}

func (n late) refutes(s shaft) bool {
	o := s.Orders[n.order]
	before := s.Jobs[o.Before]
	return before.From+before.Length > latest(s.Jobs[o.After])
}

// list is a proof as it is written.
type list []api.Node

// add writes a node, and those to which it leads, and returns its number.
func (l *list) add(n node) int {
	number := len(*l)
	*l = append(*l, api.Node{})
	var written api.Node
	switch n := n.(type) {
	case split:
		written = api.Node{Kind: api.Split, Job: n.job, A: n.at}
		written.Left = l.add(n.left)
		written.Right = l.add(n.right)
	case energy:
		written = api.Node{Kind: api.Energy, A: n.from, B: n.to}
	case late:
		written = api.Node{Kind: api.Late, Job: n.order}
	}
	(*l)[number] = written
	return number
}

// reader reads a proof as it is written.
type reader struct {
	shaft
	proof []api.Node
	seen  []bool // of each node, whether it has been read
}

// parse returns node 0 of a proof, or nil if the proof is malformed.
func (s shaft) parse(proof []api.Node) node {
	r := reader{s, proof, make([]bool, len(proof))}
	return r.node(0)
}

// node returns the node with a number, or nil if it, or one to which it leads, is
// malformed, or has been read before.
func (r *reader) node(number int) node {
	if number >= len(r.proof) || r.seen[number] {
		return nil
	}
	r.seen[number] = true
	n := r.proof[number]
	switch n { // the fields that a kind does not name are 0
	case api.Node{Kind: api.Split, Job: n.Job, A: n.A, Left: n.Left, Right: n.Right}:
		if n.Job < 0 || n.Job >= len(r.Jobs) || n.Left <= number || n.Right <= number {
			return nil
		}
		left := r.node(n.Left)
		right := r.node(n.Right)
		if left != nil && right != nil {
			return split{n.Job, n.A, left, right}
		}
	case api.Node{Kind: api.Energy, A: n.A, B: n.B}:
		if isInterval(n.A, n.B) {
			return energy{n.A, n.B}
		}
	case api.Node{Kind: api.Late, Job: n.Job}:
		if n.Job >= 0 && n.Job < len(r.Orders) {
			return late{n.Job}
		}
	}
	return nil
}
