package roll

// run is a letter that occurs count times in a row.
type run struct {
	letter, count int
}

// letter is what a letter stands for: one run, or one run followed by another one.
type letter struct {
	left, right run
}

// names numbers the letters. The letters a to z come first and stand for themselves; every other one stands for letters of smaller numbers.
type names struct {
	letters []letter
	sizes   []int
	numbers map[letter]int
}

func newNames() names {
	n := names{letters: make([]letter, alphabet), numbers: map[letter]int{}}
	for range alphabet {
		n.sizes = append(n.sizes, 1)
	}
	return n
}

// number returns the number of the letter, which is the same one for the same letter.
func (n *names) number(l letter) int {
	at, ok := n.numbers[l]
	if !ok {
		at = len(n.letters)
		n.numbers[l] = at
		n.letters = append(n.letters, l)
		n.sizes = append(n.sizes, n.size(l.left)+n.size(l.right))
	}
	return at
}

// size returns how many letters a to z a run stands for.
func (n *names) size(r run) int { return r.count * n.sizes[r.letter] }

// cursor reads a text: the runs that are still to be read, the next one last.
type cursor struct {
	names *names
	runs  []run
}

// cursorAt returns a cursor in the text of a letter, at a position from 0 to its size.
func (n *names) cursorAt(letter, position int) *cursor {
	c := &cursor{n, []run{{letter, 1}}}
	for position > 0 {
		next := c.next()
		whole := min(next.count, position/n.sizes[next.letter])
		if whole == 0 {
			c.open()
			continue
		}
		c.skip(whole)
		position -= n.size(run{next.letter, whole})
	}
	return c
}

func (c *cursor) done() bool { return len(c.runs) == 0 }

func (c *cursor) next() run { return c.runs[len(c.runs)-1] }

// skip passes the first count letters of the next run.
func (c *cursor) skip(count int) {
	last := len(c.runs) - 1
	c.runs[last].count -= count
	if c.runs[last].count == 0 {
		c.runs = c.runs[:last]
	}
}

// open replaces the first letter of the next run by what it stands for.
func (c *cursor) open() {
	l := c.names.letters[c.next().letter]
	c.skip(1)
	if l.right.count > 0 {
		c.runs = append(c.runs, l.right)
	}
	c.runs = append(c.runs, l.left)
}

// common passes the letters a to z that both cursors have in common from where they are, and returns how many these are.
func common(x, y *cursor) int {
	passed := 0
	for !x.done() && !y.done() {
		a, b := x.next(), y.next()
		switch {
		case a.letter == b.letter:
			count := min(a.count, b.count)
			passed += x.names.size(run{a.letter, count})
			x.skip(count)
			y.skip(count)
		case a.letter < alphabet && b.letter < alphabet:
			return passed
		case a.letter > b.letter:
			x.open()
		default:
			y.open()
		}
	}
	return passed
}
