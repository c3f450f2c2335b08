// Package drill: what the tests of several layers are made of: every short script, every choice of surviving writes, numbers for long scripts; trees, codes, rows, messages and changes, those that fit a schema and those that are wrong; stores on disks of their own; a book of transactions; the shape of a tree in pages; a stand-in for the machine; what is slack in a code; what tells who shares or changes a list; grammars and the sources that grow by them; texts; spoiled bytes.
package drill

// Scripts: each list of so many steps is handed on, the same memory each time.
func Scripts[Step any](steps []Step, length int, each func([]Step)) {
	fill(steps, make([]Step, length), 0, each)
}

func fill[Step any](steps, script []Step, from int, each func([]Step)) {
	if from == len(script) {
		each(script)
		return
	}
	for _, step := range steps {
		script[from] = step
		fill(steps, script, from+1, each)
	}
}

// Keeps: every choice of the waiting writes that survive is handed on, the same memory each time.
func Keeps(waiting int, each func([]bool)) {
	Scripts([]bool{false, true}, waiting, each)
}

// Numbers: without a plain pattern, and the same each time, so that a test that fails does so again.
type Numbers uint32

// Below: the next one, from 0 on.
func (n *Numbers) Below(bound int) int {
	*n = *n*1664525 + 1013904223
	return int(*n>>8) % bound
}

// Keep: a choice of the waiting writes that survive: none, some or all, of fewer or more than there are.
func (n *Numbers) Keep(waiting int) []bool {
	keep := make([]bool, n.Below(waiting+3))
	lean := n.Below(4)
	for j := range keep {
		keep[j] = lean == 3 || lean > 0 && n.Below(2) == 0
	}
	return keep
}

// Pick: any of a list.
func Pick[Part any](n *Numbers, list []Part) Part {
	return list[n.Below(len(list))]
}
