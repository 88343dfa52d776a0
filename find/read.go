package find

import (
	"slices"
	"strings"

	"tinsel/api"
)

// reader goes through an expression's words.
type reader struct {
	words []string
	at    int
	acts  bool // an action was read
	x     *Expr
}

// giveUp: what is none may be found out deep inside; Parse answers for it.
func giveUp() { panic(api.EUSAGE) }

// countRoots: how many arguments stand ahead of the expression.
func countRoots(args []string) int {
	for i, s := range args {
		if strings.HasPrefix(s, "-") && s != "-" || s == "(" || s == "!" || s == "," {
			return i
		}
	}
	return len(args)
}

// read: the expression that stands behind so many roots.
func read(args []string, roots int) *Expr {
	if len(args) > api.MaxWords {
		giveUp()
	}
	r := reader{words: slices.Clone(args[roots:]), x: &Expr{most: -1}}
	if len(r.words) == 0 {
		r.words = []string{"-true"}
	}
	whole := r.list()
	if r.more() {
		giveUp()
	}
	if !r.acts {
		whole = pair{whole, "-a", leaf{[]string{"-print"}, shown{end: '\n'}}}
	}
	r.x.whole = whole
	r.x.first = r.x.lay(whole, isTrue, isFalse)
	return r.x
}

// list: parts of which the last one counts.
func (r *reader) list() part {
	p := r.either()
	for r.took(",") {
		p = pair{p, ",", r.either()}
	}
	return p
}

// either: parts of which one must be true.
func (r *reader) either() part {
	p := r.both()
	if r.took("-o") {
		return pair{p, "-o", r.either()}
	}
	return p
}

// both: parts of which all must be true.
func (r *reader) both() part {
	p := r.one()
	for r.took("-a") || r.goesOn() {
		p = pair{p, "-a", r.one()}
	}
	return p
}

// one: a part that nothing binds to another.
func (r *reader) one() part {
	switch {
	case r.took("!"):
		return not{r.one()}
	case r.took("("):
		p := r.list()
		r.next() // a closing bracket: nothing else ends a list ahead of the words' end
		return p
	}
	begin := r.at
	is := r.test(r.next())
	r.acts = r.acts || is.acts()
	return leaf{r.words[begin:r.at], is}
}

// more: is a word left?
func (r *reader) more() bool { return r.at < len(r.words) }

// goesOn: does a word stand here that does not end what -a binds?
func (r *reader) goesOn() bool {
	if !r.more() {
		return false
	}
	s := r.words[r.at]
	return s != ")" && s != "," && s != "-o"
}

// took: this word stands here, and is read.
func (r *reader) took(word string) bool {
	if !r.more() || r.words[r.at] != word {
		return false
	}
	r.at++
	return true
}

// next: the word that must stand here.
func (r *reader) next() string {
	if !r.more() {
		giveUp()
	}
	r.at++
	return r.words[r.at-1]
}
