package mini

import "slices"

// parts is the states in blocks, which are divided till the states of each are alike. A block that waits is yet to be held against all: by each class, what goes to it is to be parted from what does not. If one that does not wait is divided, it is enough that the smaller part of both waits, as what goes to the other one is then told apart, too: so each state is gone over a few times alone.
type parts struct {
	block   []int   // of each state
	states  [][]int // of each block
	told    [][]int // of each block those of its states which are to be parted from the others; none, but while it is divided
	waits   []bool  // of each block
	waiting []int   // those that do
}

// undivided has all states in one block, which has not to wait: all go to it.
func undivided(states int) *parts {
	p := &parts{block: make([]int, states)}
	var all []int
	for s := range states {
		all = append(all, s)
	}
	p.add(all)
	return p
}

func (p *parts) add(states []int) {
	p.states = append(p.states, states)
	p.told = append(p.told, nil)
	p.waits = append(p.waits, false)
}

func (p *parts) wait(block int) {
	p.waits[block] = true
	p.waiting = append(p.waiting, block)
}

// take takes one of those that wait.
func (p *parts) take() int {
	last := len(p.waiting) - 1
	block := p.waiting[last]
	p.waiting = p.waiting[:last]
	p.waits[block] = false
	return block
}

// divide parts each block's states that are among some, each of which stands there once, from those that are not.
func (p *parts) divide(some []int) {
	var blocks []int
	for _, s := range some {
		b := p.block[s]
		if len(p.told[b]) == 0 {
			blocks = append(blocks, b)
		}
		p.told[b] = append(p.told[b], s)
	}
	for _, b := range blocks {
		if len(p.told[b]) < len(p.states[b]) {
			p.part(b, slices.Clone(p.told[b]))
		}
		p.told[b] = p.told[b][:0]
	}
}

// part takes some of a block's states out of it, into a new one.
func (p *parts) part(b int, some []int) {
	k := len(p.states)
	p.add(some)
	for _, s := range some {
		p.block[s] = k
	}
	p.states[b] = slices.DeleteFunc(p.states[b], func(s int) bool { return p.block[s] == k })
	if p.waits[b] || len(some) < len(p.states[b]) {
		p.wait(k)
	} else {
		p.wait(b)
	}
}
