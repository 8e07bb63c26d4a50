package loops

import "ticking/api"

// The kinds of nodes.
const (
	kindNone = iota
	kindAll
	kindInt
	kindBool
	kindPair
	kindFn
)

// valid reports whether t are types and the others are positions of it.
func valid(t []api.Type, positions ...int) bool {
	if len(t) < 1 || len(t) > api.MaxTypes {
		return false
	}
	for _, n := range t {
		if !validNode(t, n) {
			return false
		}
	}
	return within(t, positions...)
}

func validNode(t []api.Type, n api.Type) bool {
	switch n.Kind {
	case kindNone, kindAll, kindInt, kindBool:
		return n.A == 0 && n.B == 0
	case kindPair, kindFn:
		return within(t, n.A, n.B)
	}
	return false
}

func within(t []api.Type, positions ...int) bool {
	for _, at := range positions {
		if at < 0 || at >= len(t) {
			return false
		}
	}
	return true
}

func hasParts(n api.Type) bool { return n.Kind == kindPair || n.Kind == kindFn }
