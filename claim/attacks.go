package claim

import "bolster/api"

// Core returns the core of a dispute.
func Core(n int, attacks []api.Pair) ([]api.Pair, api.Errno) {
	if _, e := read(n, attacks); e != api.OK {
		return nil, e
	}
	var core []api.Pair
	for a := range n {
		for b := range n {
			attack := api.Pair{A: a, B: b}
			if has(attacks, attack) && !idle(attacks, attack) {
				core = append(core, attack)
			}
		}
	}
	return core, api.OK
}

// idle reports whether an attack never matters. The attacker attacks itself, so that it
// is in no free set, and what it attacks defends itself or is in none either.
func idle(attacks []api.Pair, attack api.Pair) bool {
	back := api.Pair{A: attack.B, B: attack.A}
	return back != attack && has(attacks, api.Pair{A: attack.A, B: attack.A}) &&
		(has(attacks, back) || has(attacks, api.Pair{A: attack.B, B: attack.B}))
}

// has reports whether an attack is among some.
func has(attacks []api.Pair, attack api.Pair) bool {
	for _, other := range attacks {
		if other == attack {
			return true
		}
	}
	return false
}

// Odd returns the first shortest ring of an odd number of attacks.
func Odd(n int, attacks []api.Pair) ([]int, api.Errno) {
	d, e := read(n, attacks)
	if e != api.OK {
		return nil, e
	}
	for length := 1; length <= n; length += 2 {
		for start := range n {
			if way := d.around(start, length); way != nil {
				return way, api.OK
			}
		}
	}
	return nil, api.ErrNone
}

// around returns the first way over a number of attacks from a claim back to it, if
// there is one. If there is none over a lesser odd number, and none from a lesser claim,
// it is a ring from its least claim on: at a claim to which it came twice it would fall
// into two ways around, one of them shorter and odd.
func (d dispute) around(start, length int) []int {
	// from[k] are the claims from which k attacks lead to the start.
	from := []set{1 << start}
	for k := range length {
		from = append(from, union(d.attackers, from[k]))
	}
	if !from[length].has(start) {
		return nil
	}
	way := []int{start}
	for k := length - 1; k > 0; k-- {
		at := way[len(way)-1]
		way = append(way, (d.targets[at] & from[k]).first())
	}
	return way
}
