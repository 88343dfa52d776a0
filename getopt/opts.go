package getopt

import (
	"slices"

	"tinsel/api"
)

// Has: was an option given?
func Has(opts []api.Opt, name string) bool { return Count(opts, name) > 0 }

// Count: how often?
func Count(opts []api.Opt, name string) int {
	n := 0
	for _, o := range opts {
		if o.Name == name {
			n++
		}
	}
	return n
}

// Last: its last argument.
func Last(opts []api.Opt, name string) (string, bool) {
	for _, o := range slices.Backward(opts) {
		if o.Name == name {
			return o.Arg, true
		}
	}
	return "", false
}

// Winner: which one of some was given last; "": none.
func Winner(opts []api.Opt, names string) string {
	var named [256]bool // so that many options and many names are gone through once each
	for i := range len(names) {
		named[names[i]] = true
	}
	for _, o := range slices.Backward(opts) {
		if len(o.Name) == 1 && named[o.Name[0]] {
			return o.Name
		}
	}
	return ""
}
