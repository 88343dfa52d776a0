package glob

import (
	"strings"

	"tinsel/api"
)

// The names of the classes.
var classNames = [...]string{"alnum", "alpha", "blank", "cntrl", "digit", "graph", "lower", "print", "punct", "space", "upper", "xdigit"}

// Class: its bytes.
func Class(name string) ([]byte, api.Errno) {
	if !isClass(name) {
		return nil, api.EINVAL
	}
	var set byteSet
	set.addClass(name)
	return set.bytes(), api.OK
}

// isClass: is there one of that name?
func isClass(name string) bool {
	for _, other := range classNames {
		if other == name {
			return true
		}
	}
	return false
}

// classAt: the name of the class that a text begins with, in [: and :]; nothing, if it begins with none.
func classAt(text string) string {
	rest, begun := strings.CutPrefix(text, "[:")
	if !begun {
		return ""
	}
	for _, name := range classNames {
		if behind, ok := strings.CutPrefix(rest, name); ok && strings.HasPrefix(behind, ":]") {
			return name
		}
	}
	return ""
}

// inClass: is a byte one of a class?
func inClass(name string, c byte) bool {
	switch name {
	case "alnum":
		return isLetter(c) || isDigit(c)
	case "alpha":
		return isLetter(c)
	case "blank":
		return c == ' ' || c == '\t'
	case "cntrl":
		return c < ' ' || c == 127
	case "digit":
		return isDigit(c)
	case "graph":
		return isGraph(c)
	case "lower":
		return isLower(c)
	case "print":
		return c == ' ' || isGraph(c)
	case "punct":
		return isGraph(c) && !isLetter(c) && !isDigit(c)
	case "space":
		return c == ' ' || '\t' <= c && c <= '\r'
	case "upper":
		return isUpper(c)
	case "xdigit":
		return isDigit(c) || 'a' <= c && c <= 'f' || 'A' <= c && c <= 'F'
	}
	return false
}

func isUpper(c byte) bool { return 'A' <= c && c <= 'Z' }

func isLower(c byte) bool { return 'a' <= c && c <= 'z' }

func isLetter(c byte) bool { return isUpper(c) || isLower(c) }

func isDigit(c byte) bool { return '0' <= c && c <= '9' }

func isGraph(c byte) bool { return 33 <= c && c <= 126 }
