package claim

import "bolster/api"

// dispute is what each claim attacks, and what attacks it.
type dispute struct {
	claims             int
	targets, attackers [api.MaxClaims]set
}

// read returns a dispute, or ErrArg if it is not valid.
func read(n int, attacks []api.Pair) (dispute, api.Errno) {
	if n < 1 || n > api.MaxClaims || len(attacks) > api.MaxAttacks {
		return dispute{}, api.ErrArg
	}
	d := dispute{claims: n}
	for _, attack := range attacks {
		if min(attack.A, attack.B) < 0 || max(attack.A, attack.B) >= n {
			return dispute{}, api.ErrArg
		}
		d.targets[attack.A] |= 1 << attack.B
		d.attackers[attack.B] |= 1 << attack.A
	}
	return d, api.OK
}

// readSet returns a dispute and a set of its claims, or the error of either.
func readSet(n int, attacks []api.Pair, claims []int) (dispute, set, api.Errno) {
	d, e := read(n, attacks)
	if e != api.OK {
		return dispute{}, 0, e
	}
	s, least := set(0), 0
	for _, c := range claims {
		if c < least || c >= n {
			return dispute{}, 0, api.ErrForm
		}
		s |= 1 << c
		least = c + 1
	}
	return d, s, api.OK
}

// all returns the set of all claims.
func (d dispute) all() set { return 1<<d.claims - 1 }

// sets returns the sets of claims that are of a kind.
func (d dispute) sets(kind func(set) bool) []set {
	var sets []set
	for s := range d.all() + 1 {
		if kind(s) {
			sets = append(sets, s)
		}
	}
	return sets
}

// attacked returns the claims that a set attacks.
func (d dispute) attacked(s set) set {
	return union(d.targets, s)
}

// union returns the union of the sets that belong to the claims of a set.
func union(sets [api.MaxClaims]set, s set) set {
	sum := set(0)
	for claim := range s.each {
		sum |= sets[claim]
	}
	return sum
}

// defended returns the claims that a set defends.
func (d dispute) defended(s set) set {
	attacked, defended := d.attacked(s), set(0)
	for claim := range d.claims {
		if attacked.contains(d.attackers[claim]) {
			defended |= 1 << claim
		}
	}
	return defended
}

func (d dispute) free(s set) bool { return d.attacked(s)&s == 0 }

func (d dispute) admissible(s set) bool { return d.free(s) && d.defended(s).contains(s) }

func (d dispute) complete(s set) bool { return d.free(s) && d.defended(s) == s }

// stable reports whether a set attacks all claims that are not in it, and no others.
func (d dispute) stable(s set) bool { return d.attacked(s) == d.all()&^s }
