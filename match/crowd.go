package match

// crowd is the list of the states at a place, told by their places in the machine, each once; in tells which of them it has.
type crowd struct {
	list []int
	in   []bool
}

// newCrowd tells an empty one for a machine of so many states.
func newCrowd(count int) crowd {
	return crowd{list: make([]int, 0, count), in: make([]bool, count)}
}

// add puts a state to it, if it has it not yet.
func (c *crowd) add(state int) {
	if !c.in[state] {
		c.in[state] = true
		c.list = append(c.list, state)
	}
}

// empty takes all states out of it.
func (c *crowd) empty() {
	clear(c.in)
	c.list = c.list[:0]
}
