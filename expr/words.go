package expr

import "tinsel/api"

// words are what has not been read yet of an expression.
type words struct{ left []string }

// newWords: those of an expression, which may not be more than MaxWords.
func newWords(args []string) *words {
	if len(args) > api.MaxWords {
		giveUp(api.EUSAGE)
	}
	return &words{left: args}
}

// next: the next one, which must be there.
func (w *words) next() string {
	if len(w.left) == 0 {
		giveUp(api.EUSAGE)
	}
	word := w.left[0]
	w.left = w.left[1:]
	return word
}

// took: the next one is this, and is read.
func (w *words) took(word string) bool {
	if len(w.left) == 0 || w.left[0] != word {
		return false
	}
	w.left = w.left[1:]
	return true
}

// must: the next one has to be this.
func (w *words) must(word string) {
	if !w.took(word) {
		giveUp(api.EUSAGE)
	}
}

// end: no more may come.
func (w *words) end() {
	if len(w.left) > 0 {
		giveUp(api.EUSAGE)
	}
}
