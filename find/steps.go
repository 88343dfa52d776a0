package find

// step is a test or an action as it is reckoned, and where to go on, if it is true, and if not: another step, or an end.
type step struct {
	test    test
	yes, no int
}

// The ends of a reckoning.
const (
	isTrue  = -1
	isFalse = -2
)

// lay: puts a part's steps down, of which each leads where the part's value is known, or to what must be reckoned yet; answers where it begins. What is reckoned behind another part is laid ahead of it, as that one leads there.
func (e *Expr) lay(p part, yes, no int) int {
	switch p := p.(type) {
	case not:
		return e.lay(p.of, no, yes)
	case pair:
		right := e.lay(p.right, yes, no)
		switch p.sign {
		case "-a":
			return e.lay(p.left, right, no)
		case "-o":
			return e.lay(p.left, yes, right)
		}
		return e.lay(p.left, right, right)
	case leaf:
		e.steps = append(e.steps, step{p.is, yes, no})
	}
	return len(e.steps) - 1
}
