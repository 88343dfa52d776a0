package glob

import "tinsel/api"

// byteSet says of each byte whether it is in.
type byteSet [256]bool

// setOf: the set of a list's bytes.
func setOf(list []byte) byteSet {
	var set byteSet
	for _, c := range list {
		set[c] = true
	}
	return set
}

// bytes: those that are in, rising.
func (set *byteSet) bytes() []byte {
	var b []byte
	for c := range len(set) {
		if set[c] {
			b = append(b, byte(c))
		}
	}
	return b
}

// addRange: the bytes from lo to hi; none, if hi is less.
func (set *byteSet) addRange(lo, hi int) {
	for c := lo; c <= hi; c++ {
		set[c] = true
	}
}

// addClass: the bytes of a class.
func (set *byteSet) addClass(name string) {
	for c := range len(set) {
		set[c] = set[c] || inClass(name, byte(c))
	}
}

// finished: what a bracket of these items matches. Cases are folded ahead of turning it round: a letter is no other one, if either of its cases is an item.
func (set *byteSet) finished(others bool, flags int) *byteSet {
	if flags&api.GlobFold != 0 {
		for small := 'a'; small <= 'z'; small++ {
			capital := small - 'a' + 'A'
			in := set[small] || set[capital]
			set[small], set[capital] = in, in
		}
	}
	for c := range len(set) {
		set[c] = set[c] != others
	}
	return set
}

// Complement: the bytes that are not in a set.
func Complement(set []byte) []byte {
	in := setOf(set)
	return in.finished(true, 0).bytes()
}

// Translate: b, with the bytes of from as those of to.
func Translate(b, from, to []byte) ([]byte, api.Errno) {
	if len(to) == 0 && len(from) > 0 {
		return nil, api.EINVAL
	}
	var becomes [256]byte
	for c := range becomes {
		becomes[c] = byte(c)
	}
	for i := len(from) - 1; i >= 0; i-- { // from the back, so that the first place counts
		becomes[from[i]] = to[min(i, len(to)-1)]
	}
	out := make([]byte, len(b))
	for i, c := range b {
		out[i] = becomes[c]
	}
	return out, api.OK
}

// Delete: b without the bytes of a set.
func Delete(b, set []byte) []byte {
	in := setOf(set)
	var out []byte
	for _, c := range b {
		if !in[c] {
			out = append(out, c)
		}
	}
	return out
}

// Squeeze: b, with one byte in place of each run of a byte of a set.
func Squeeze(b, set []byte) []byte {
	in := setOf(set)
	var out []byte
	for i, c := range b {
		if i == 0 || c != b[i-1] || !in[c] {
			out = append(out, c)
		}
	}
	return out
}
