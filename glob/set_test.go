package glob_test

import (
	"fmt"
	"math"
	"strings"
	"testing"

	"tinsel/api"
)

// P12.2: bytes that stand for themselves.
func TestSetOfBytes(t *testing.T) {
	for _, size := range []int{math.MinInt, -1, 0, 1, 3, api.MaxSet + 1, math.MaxInt} {
		sets(t, "", size, "")
		sets(t, "a", size, "a")
		sets(t, "cab", size, "cab")
		sets(t, "aab", size, "aab") // a byte may stand there twice
		sets(t, "é\x00\xff\x80", size, "é\x00\xff\x80")
		sets(t, "[abc]", size, "[abc]")
		sets(t, "]*=:", size, "]*=:")
	}
	for _, c := range each() {
		sets(t, c, -1, c)
		if c != "\\" && c != "-" {
			sets(t, c+c, -1, c+c)
			sets(t, "x"+c+"y", -1, "x"+c+"y")
		}
	}
}

// P12.2: what stands behind a backslash.
func TestSetEscapes(t *testing.T) {
	special := map[string]string{"a": "\a", "b": "\b", "t": "\t", "n": "\n", "v": "\v", "f": "\f", "r": "\r"}
	for _, c := range each() {
		want, ok := special[c]
		switch {
		case ok:
		case "0" <= c && c <= "7":
			want = string([]byte{c[0] - '0'})
		default:
			want = c
		}
		sets(t, "\\"+c, -1, want)
		sets(t, "x\\"+c+"y", -1, "x"+want+"y")
		sets(t, "\\"+c+"\\"+c, -1, want+want)
		sets(t, "[=\\"+c+"=]", -1, want)
		sets(t, "[\\"+c+"*2]", -1, want+want)
		sets(t, "\\"+c+"-\\"+c, -1, want)
	}
	sets(t, "\\", -1, "\\")
	sets(t, "a\\", -1, "a\\")
	sets(t, "\\\\", -1, "\\")
	sets(t, "\\\\\\", -1, "\\\\")
	sets(t, "\\\\n", -1, "\\n")
	sets(t, "\\[:alpha:]", -1, "[:alpha:]")
	sets(t, "\\[=a=]", -1, "[=a=]")
	sets(t, "\\[x*3]", -1, "[x*3]")
	sets(t, "a\\-c", -1, "a-c")
	sets(t, "\\x41\\A\\N", -1, "x41AN")
}

// P12.2: one to three octal digits, modulo 256.
func TestSetOctal(t *testing.T) {
	for n := range 512 {
		c := string([]byte{byte(n)})
		for width := 1; width <= 3; width++ {
			digits := fmt.Sprintf("%0*o", width, n)
			sets(t, "\\"+digits, -1, c)
			sets(t, "\\"+digits+"8", -1, c+"8")
			sets(t, "\\"+digits+"x", -1, c+"x")
			if len(digits) == 3 {
				sets(t, "\\"+digits+"7", -1, c+"7")
			}
		}
	}
	sets(t, "\\101", -1, "A")
	sets(t, "\\1012", -1, "A2")
	sets(t, "\\0101", -1, "\b1")
	sets(t, "\\400\\401\\777", -1, "\x00\x01\xff")
	sets(t, "\\18\\8\\9", -1, "\x01889")
	sets(t, "\\1\\12\\123", -1, "\x01\nS")
	sets(t, "\\n\\101-C", -1, "\nABC")
	sets(t, "\\101-\\103", -1, "ABC")
	sets(t, "\\000-\\377", -1, span(0, 255))
	sets(t, "\\0-\\2", -1, "\x00\x01\x02")
	sets(t, "\\376-\\777", -1, "\xfe\xff")
	noSet(t, api.EINVAL, -1, "\\103-\\101", "\\1-\\400", "b-\\141")
}

// P12.2: the bytes from one to another; EINVAL, if they fall.
func TestSetRanges(t *testing.T) {
	sets(t, "a-c", -1, "abc")
	sets(t, "a-a", -1, "a")
	sets(t, "a-cx-z", -1, "abcxyz")
	sets(t, "xa-cy", -1, "xabcy")
	sets(t, "a-ca-b", -1, "abcab")
	sets(t, "\x00-\xff", -1, span(0, 255))
	sets(t, "\x7f-\x81", -1, "\x7f\x80\x81")
	sets(t, "a-c[:digit:]", -1, "abc0123456789")
	sets(t, "A-\\", -1, span('A', '\\'))
	sets(t, "[-a", -1, span('[', 'a'))
	sets(t, "A-[", -1, span('A', '['))
	sets(t, "[a-c]", -1, "[abc]")
	sets(t, "[a-c", -1, "[abc")
	sets(t, "[]-a", -1, "["+span(']', 'a'))
	noSet(t, api.EINVAL, -1, "c-a", "b-a", "\xff-\x00", "xc-ay", "a-cz-y", "c-a[:digit:]", "[:digit:]c-a", "a--", "a-\\", "a-\\n", "a-[:digit:]", "a-[=b=]", "z-[x*2]", "[c-a]", "\\c-\\a")
	for lo := range 256 {
		for hi := range 256 {
			s := string([]byte{byte(lo), '-', byte(hi)})
			switch {
			case lo == '\\': // it is the dash that has a backslash ahead
				if hi != '\\' {
					sets(t, s, -1, s[1:])
				}
			case hi < lo:
				noSet(t, api.EINVAL, -1, s)
			default:
				sets(t, s, -1, span(lo, hi))
			}
		}
	}
}

// P12.2: a - that is a byte like others, or an end of a range.
func TestSetDashes(t *testing.T) {
	sets(t, "-", -1, "-")
	sets(t, "--", -1, "--")
	sets(t, "---", -1, "-")
	sets(t, "----", -1, "--")
	sets(t, "-a", -1, "-a")
	sets(t, "a-", -1, "a-")
	sets(t, "-a-", -1, "-a-")
	sets(t, "a-c-", -1, "abc-")
	sets(t, "a-c-e", -1, "abc-e")
	sets(t, "a-c-e-g", -1, "abc-efg")
	sets(t, "--/", -1, "-./")
	sets(t, "+--", -1, "+,-")
	sets(t, "\\--/", -1, "-./")
	sets(t, "+-\\-", -1, "+,-")
	sets(t, "[:digit:]-", -1, "0123456789-")
	sets(t, "[:digit:]-a", -1, "0123456789-a")
	sets(t, "[=a=]-c", -1, "a-c")
	sets(t, "[a*2]-c", -1, "aa-c")
	sets(t, "\\n-", -1, "\n-")
}

// P12.2: classes and what is none.
func TestSetClasses(t *testing.T) {
	sets(t, "[:digit:][:blank:]", -1, "0123456789\t ")
	sets(t, "[[:digit:]]", -1, "[0123456789]")
	sets(t, "[:digit:]:]", -1, "0123456789:]")
	noSet(t, api.EINVAL, -1, "[:x:]", "[::]", "[:digits:]", "[:DIGIT:]", "[: digit:]", "a[:x:]", "[:x:]a", "[:digit:][:x:]", "[:x[:digit:]", "[:digit]:]", "[:\\digit:]", "[:digit\\:]", "[:-:]", "[:\xff:]")
	for _, s := range []string{"[:", "[:x", "[:digit", "[:digit:", "[:digit]", "[:]", "[:]x", "[:x]", "[:digit;]", "[ :digit:]", "[:digit: ]", "[[:", ":]", "[x:]", ":digit:]"} {
		sets(t, s, -1, s)
		sets(t, "a"+s, -1, "a"+s)
	}
	sets(t, "[:x-z", -1, "[:xyz")
	sets(t, "[:digit[=a=]", -1, "[:digita")
	noSet(t, api.EINVAL, -1, "[:z-x")
}

// P12.2: [=C=].
func TestSetEqual(t *testing.T) {
	for _, c := range each() {
		if c != "\\" {
			sets(t, "[="+c+"=]", -1, c)
			sets(t, "x[="+c+"=]y", -1, "x"+c+"y")
		}
	}
	sets(t, "[=a=][=b=]", -1, "ab")
	sets(t, "[===]", -1, "=")
	sets(t, "[=]=]", -1, "]")
	sets(t, "[=-=]", -1, "-")
	sets(t, "[=*=]", -1, "*")
	sets(t, "[=[=]", -1, "[")
	sets(t, "[=\\n=]", -1, "\n")
	sets(t, "[=\\101=]", -1, "A")
	sets(t, "[=\\]=]", -1, "]")
	sets(t, "[=\\\\=]", -1, "\\")
	sets(t, "[[=a=]]", -1, "[a]")
	for _, s := range []string{"[=", "[=a", "[=a=", "[=a]", "[==]", "[=]", "[=ab=]", "[=a =]", "[a=]", "=a=]", "[=a==]", "[=ab", "[==", "[ =a=]"} {
		sets(t, s, -1, s)
		sets(t, "x"+s, -1, "x"+s)
	}
	sets(t, "[=\\", -1, "[=\\")
	sets(t, "[=\\=]", -1, "[==]")
	sets(t, "[=a-c=]", -1, "[=abc=]")
	noSet(t, api.EINVAL, -1, "[=c-a=]")
}

// P12.2: a byte, N times, N being decimal or octal.
func TestSetRepeats(t *testing.T) {
	sets(t, "[x*3]y", -1, "xxxy")
	sets(t, "a[x*1]b", -1, "axb")
	sets(t, "[x*10]", -1, strings.Repeat("x", 10))
	sets(t, "[x*010]", -1, strings.Repeat("x", 8))
	sets(t, "[x*0010]", -1, strings.Repeat("x", 8))
	sets(t, "[x*017]", -1, strings.Repeat("x", 15))
	sets(t, "[x*01]", -1, "x")
	sets(t, "[x*"+strings.Repeat("0", 1000)+"11]", -1, strings.Repeat("x", 9))
	sets(t, "[x*3][y*2]", -1, "xxxyy")
	sets(t, "[x*3]", 2, "xxx") // what is counted does not hang on the size
	sets(t, "[[*2]", -1, "[[")
	sets(t, "[]*2]", -1, "]]")
	sets(t, "[**2]", -1, "**")
	sets(t, "[-*2]", -1, "--")
	sets(t, "[:*2]", -1, "::")
	sets(t, "[=*2]", -1, "==")
	sets(t, "[3*3]", -1, "333")
	sets(t, "[\\n*2]", -1, "\n\n")
	sets(t, "[\\101*2]", -1, "AA")
	sets(t, "[\\]*2]", -1, "]]")
	sets(t, "[\xff*2]", -1, "\xff\xff")
	sets(t, "[[x*2]]", -1, "[xx]")
	for _, s := range []string{"[x*", "[x*3", "[x* 3]", "[x*3 ]", "[x*+3]", "[x*a]", "[x*3a]", "[xy*3]", "[x3]", "[*3]", "[*]", "[x*08]", "[x*09]", "[x*0x3]", "[x*018]", "[*", "x*3]", "[ x*3]"} {
		sets(t, s, -1, s)
		sets(t, s, 9, s)
		sets(t, "y"+s, -1, "y"+s)
	}
	sets(t, "[x*-3]", -1, "[x"+span('*', '3')+"]")
	sets(t, "[x\\*3]", -1, "[x*3]")
	sets(t, "[x*\\3]", -1, "[x*\x03]")
}

// P12.2: [C*] stands for as many as make size bytes.
func TestSetFill(t *testing.T) {
	for _, n := range []string{"", "0", "00", strings.Repeat("0", 100)} {
		fill := "[x*" + n + "]"
		for size := range 20 {
			sets(t, fill, size, strings.Repeat("x", size))
			sets(t, fill+"y", size, strings.Repeat("x", max(size-1, 0))+"y")
			sets(t, "y"+fill, size, "y"+strings.Repeat("x", max(size-1, 0)))
			sets(t, "ab"+fill+"c-e", size, "ab"+strings.Repeat("x", max(size-5, 0))+"cde")
			sets(t, "[y*3]"+fill+"[:blank:]", size, "yyy"+strings.Repeat("x", max(size-5, 0))+"\t ")
		}
		noSet(t, api.EINVAL, -1, fill, "a"+fill, fill+"a", "[y*3]"+fill)
		noSet(t, api.EINVAL, math.MinInt, fill)
		for _, size := range []int{-1, 0, 1, 2, 9, api.MaxSet, math.MaxInt} {
			noSet(t, api.EINVAL, size, fill+fill, fill+"[y*]", "[y*0]"+fill, fill+"abc"+fill, "[y*]abc[z*]"+fill)
		}
	}
	sets(t, "[x*]y", 4, "xxxy")
	sets(t, "[\\n*]", 2, "\n\n")
	sets(t, "[**]", 2, "**")
	sets(t, "[]*]", 2, "]]")
	sets(t, "[-*]", 2, "--")
	sets(t, "\\[x*]", -1, "[x*]")
}

// P12.2: MaxSet bytes are a set, one more is ERANGE, however they come.
func TestSetTooGreat(t *testing.T) {
	most := strings.Repeat("x", api.MaxSet)
	if api.MaxSet != 4096 {
		t.Fatal(api.MaxSet)
	}
	sets(t, most, -1, most)
	sets(t, "[x*4096]", -1, most)
	sets(t, "[x*010000]", -1, most)
	sets(t, "[x*4095]y", -1, most[1:]+"y")
	sets(t, "y[x*4095]", -1, "y"+most[1:])
	sets(t, strings.Repeat("\\0-\\377", 16), -1, strings.Repeat(span(0, 255), 16))
	sets(t, "[x*]", api.MaxSet, most)
	sets(t, "[x*]y", api.MaxSet, most[1:]+"y")
	sets(t, most+"[y*]", 0, most)
	sets(t, "[y*]"+most, api.MaxSet, most)
	sets(t, most[:100]+"[y*]"+most[100:], 7, most)
	sets(t, "abc", math.MaxInt, "abc")
	noSet(t, api.ERANGE, -1, most+"x", "x"+most, "[x*4097]", "[x*010001]", "[x*4096]y", "y[x*4096]", "[x*2048][y*2049]", strings.Repeat("\\0-\\377", 16)+"a", strings.Repeat("a-z", 1000), strings.Repeat("[:alnum:]", 100), strings.Repeat("[=a=]", 4097), most+"[x*1]", most+"[:digit:]", most+"a-c", most[1:]+"a-b")
	for _, huge := range []string{"999999999999999999", "9223372036854775807", "9223372036854775808", "18446744073709551616", "18446744073709551617", "01000000000000000000000", "02000000000000000000001", strings.Repeat("9", 1000), "0" + strings.Repeat("7", 1000), "1" + strings.Repeat("0", 1000), "4294967297", "4294967296"} {
		noSet(t, api.ERANGE, -1, "[x*"+huge+"]", "a[x*"+huge+"]b", "[x*"+huge+"][y*"+huge+"]")
		noSet(t, api.ERANGE, 5, "[x*"+huge+"][y*]", "[y*][x*"+huge+"]")
	}
	for _, size := range []int{api.MaxSet + 1, 1 << 32, 1<<32 + 1, math.MaxInt - 1, math.MaxInt} {
		noSet(t, api.ERANGE, size, "[x*]", "a[x*]", "[x*0]a", most+"[x*]", "[y*100][x*]")
	}
	noSet(t, api.ERANGE, 0, most+"x[y*]", "[y*]"+most+"x", "[x*4097][y*]")
}

// P12.2, R2: what is wrong in a text is told ahead of what does not fit, wherever it stands.
func TestSetWrongFirst(t *testing.T) {
	for _, great := range []string{"[x*5000]", strings.Repeat("x", api.MaxSet+1), "[x*99999999999999999999]", strings.Repeat("a-z", 1000)} {
		for _, wrong := range []string{"c-a", "[:x:]", "[::]", "[y*]", "[y*0]"} {
			noSet(t, api.EINVAL, -1, great+wrong, wrong+great, great+wrong+great)
		}
		for _, wrong := range []string{"c-a", "[:x:]", "[y*][z*]"} {
			noSet(t, api.EINVAL, 3, great+wrong, wrong+great, great+"[u*]"+wrong, wrong+"[u*]"+great)
			noSet(t, api.EINVAL, math.MaxInt, great+wrong, wrong+great, "[u*]"+wrong)
		}
	}
	noSet(t, api.EINVAL, -1, "c-a[:x:]", "[:x:][y*]", "[y*]c-a")
}
