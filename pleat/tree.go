package pleat

import "ticking/api"

// tree is a leaf, a fold or a seam.
type tree interface{ isTree() }

// leaf is the tree x or y.
type leaf struct{ symbol byte }

// fold is a tree f(T).
type fold struct{ inner tree }

// seam is a tree g(T,U).
type seam struct{ left, right tree }

func (leaf) isTree() {}
func (fold) isTree() {}
func (seam) isTree() {}

// parse returns the tree that the text is.
func parse(text string) (t tree, err api.Errno) {
	defer func() {
		if recover() != nil {
			t, err = nil, api.ErrSyntax
		}
	}()
	p := parser{rest: text, room: api.MaxTree}
	t = p.tree()
	if p.rest != "" {
		panic(api.ErrSyntax)
	}
	return t, api.OK
}

// parser reads a tree, and panics where the text is not one.
type parser struct {
	rest string
	room int // how many symbols may come
}

func (p *parser) tree() tree {
	if p.room == 0 {
		panic(api.ErrSyntax)
	}
	p.room--
	switch symbol := p.next(); symbol {
	case 'x', 'y':
		return leaf{symbol}
	case 'f':
		p.expect('(')
		inner := p.tree()
		p.expect(')')
		return fold{inner}
	case 'g':
		p.expect('(')
		left := p.tree()
		p.expect(',')
		right := p.tree()
		p.expect(')')
		return seam{left, right}
	}
	panic(api.ErrSyntax)
}

func (p *parser) next() byte {
	if p.rest == "" {
		panic(api.ErrSyntax)
	}
	b := p.rest[0]
	p.rest = p.rest[1:]
	return b
}

func (p *parser) expect(b byte) {
	if p.next() != b {
		panic(api.ErrSyntax)
	}
}
