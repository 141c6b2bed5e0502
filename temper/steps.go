package temper

// spread gives numbers of steps to the cells that follow from those that have one, which
// are queued: settles is told of an option that a jolt may lead to such a cell, and
// reports whether that settles the cell of the option, one step later.
func (o *oven) spread(steps map[position]int, queue []position, settles func(number int) bool) {
	for len(queue) > 0 {
		p := queue[0]
		queue = queue[1:]
		for _, number := range o.into[p] {
			from := o.options[number].from
			if _, known := steps[from]; !known && settles(number) {
				steps[from] = steps[p] + 1
				queue = append(queue, from)
			}
		}
	}
}

// losses returns in how many steps cells are lost, and for each of the others, those of
// the kernel, the moves that keep in the kernel whatever the jolt is, a bit each.
func (o *oven) losses() (steps map[position]int, kernel map[position]uint) {
	steps, kernel = map[position]int{}, map[position]uint{}
	var queue []position
	for p := range o.positions {
		switch {
		case !o.safe[p]:
			steps[p] = 0 // and no option leads there, so that nothing follows from it
		case len(o.at[p]) == 0:
			steps[p] = 1
			queue = append(queue, p)
		}
		for _, number := range o.at[p] {
			kernel[p] |= 1 << o.options[number].move
		}
	}
	o.spread(steps, queue, func(number int) bool {
		spoilt := o.options[number]
		kernel[spoilt.from] &^= 1 << spoilt.move
		if kernel[spoilt.from] > 0 {
			return false
		}
		delete(kernel, spoilt.from)
		return true
	})
	return steps, kernel
}

// distances returns how many steps cells are from a goal, as far as they are any.
func (o *oven) distances(goal set) map[position]int {
	steps := map[position]int{}
	var queue []position
	for p := range o.positions {
		if o.safe[p] && goal[p] {
			steps[p] = 0
			queue = append(queue, p)
		}
	}
	missing := make([]int, len(o.options)) // how many landings have no number yet
	for number, c := range o.options {
		missing[number] = len(c.to)
	}
	o.spread(steps, queue, func(number int) bool {
		missing[number]--
		return missing[number] == 0
	})
	return steps
}

// first returns the first move by which every jolt leads to a position of some kind, or
// -1 if there is none; all positions of that kind must be safe.
func (o *oven) first(p position, isKind func(position) bool) int {
options:
	for _, number := range o.at[p] {
		for _, q := range o.options[number].to {
			if !isKind(q) {
				continue options
			}
		}
		return o.options[number].move
	}
	return -1
}
