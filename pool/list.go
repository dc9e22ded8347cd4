package pool

// list: blocks of size slots each, one behind the other: the first has the positions from 0 on.
type list struct {
	size   int
	blocks []int
}

func (l *list) isEmpty() bool { return len(l.blocks) == 0 }

// lacking: how many more blocks n positions (0 or more) need than there are; below 0: so many fewer.
func (l *list) lacking(n int) int {
	need := n / l.size
	if n%l.size > 0 {
		need++
	}
	return need - len(l.blocks)
}

func (l *list) push(block int) { l.blocks = append(l.blocks, block) }

// pop: the last block, which goes.
func (l *list) pop() int {
	last := len(l.blocks) - 1
	block := l.blocks[last]
	l.blocks = l.blocks[:last]
	return block
}

// reaches: whether there is a block for a position.
func (l *list) reaches(pos int) bool { return pos >= 0 && pos/l.size < len(l.blocks) }

// at: the block of a position that the list reaches.
func (l *list) at(pos int) int { return l.blocks[pos/l.size] }

func (l *list) set(pos, block int) { l.blocks[pos/l.size] = block }
