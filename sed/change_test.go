package sed_test

import (
	"fmt"
	"strings"
	"testing"
)

// P19.1: any byte but a line feed and \ parts what s and y take.
func TestDelimiters(t *testing.T) {
	for i := range 256 {
		d := string([]byte{byte(i)})
		s := "s" + d + "\x01" + d + "\x02" + d
		y := "y" + d + "\x01\x03" + d + "\x02\x04" + d
		switch i {
		case '\n', '\\', 1, 2, 3, 4:
			if i > 4 {
				allRead(t, script1, s, y)
			}
			continue
		}
		reads(t, [2]string{s, s}, [2]string{y, y}, [2]string{s + ";p", s + "\np"}, [2]string{"{" + y + "}", "{\n" + y + "\n}"})
		told(t, s, ran(parsed(t, s), "x\x01\x01\n", false), "x\x02\x01\n")
		told(t, y, ran(parsed(t, y), "\x03\x01x\x01\n", false), "\x04\x02x\x02\n")
	}
	allRead(t, script1, "s", "s;", "s\n", "s\\a\\b\\", "s\na\nb\n", "y", "y\\a\\b\\", "y\na\nb\n", "s/", "s//", "s///", "s/a", "s/a/", "s/a/b", "y/", "y/a", "y/a/", "y/a/b", "s a b", "s/a/b;p", "y,a,b;p", "s/a\\/b/", "s/a/b\\/", "y/a/b\\/")
	allRead(t, script2, "\ns/a/b", "p\ns\na\nb\n", "p\ny/a/b\n/")
}

// P19.1: \ and the delimiter is the delimiter alone, in a pattern and in a replacement; both are told as they were given.
func TestQuotedDelimiters(t *testing.T) {
	in := "a/b|c.d*e&f\n"
	tells(t, in,
		[2]string{"s/\\//-/", "a-b|c.d*e&f\n"}, [2]string{"s/b/\\//", "a//|c.d*e&f\n"}, [2]string{"s|b\\|c|-|", "a/-.d*e&f\n"}, [2]string{"s|b|\\||", "a/||c.d*e&f\n"}, [2]string{"s|/|\\\\|", "a\\b|c.d*e&f\n"},
		[2]string{"s.c\\.d.-.", "a/b|-*e&f\n"}, [2]string{"s,c\\.d,-,", "a/b|-*e&f\n"}, [2]string{"s&e\\&f&-&", "a/b|c.d*-\n"}, [2]string{"s/\\\\\\//-/", in}, [2]string{"s/c/\\\\\\//", "a/b|\\/.d*e&f\n"},
		[2]string{"s;a/;\\;;", ";b|c.d*e&f\n"}, [2]string{"sa\\a/bax\\aya", "xay|c.d*e&f\n"}, [2]string{"s b \\  ", "a/ |c.d*e&f\n"},
	)
}

// P19.1: neither part goes on behind a line feed, and no pattern is empty.
func TestPartsOfS(t *testing.T) {
	allRead(t, script1, "s//x/", "s|||", "s//x/g", "1s,,,", "s/a\nb/x/", "s/a/x\ny/", "s/a/x\\\ny/", "s/a\\\nb/x/", "s/\n/x/", "s/a/\n/", "s/a/b\n/", "s/[/]/x/", "y/\n/a/", "y/a/\n/", "y/a\\\n/bc/")
	reads(t, [2]string{"s/a//", "s/a//"}, [2]string{"s,a,,g", "s,a,,g"}, [2]string{"s/a/ /", "s/a/ /"}, [2]string{"s/ / \\n /", "s/ / \\n /"}, [2]string{"s/a/;}{/;p", "s/a/;}{/\np"}, [2]string{"s/;/}/;}", script1}, [2]string{"{s/;/}/}", "{\ns/;/}/\n}"})
	allRead(t, regex1, "s/\\(/x/", "s/\\)/x/", "s/[/x/", "s/\\n/x/", "s/\\d/x/", "s/a\\{2,1\\}/x/", "s/a/\\1/", "s/\\(a\\)/\\2/", "s/a/\\0/", "s/a/b\\9/g", "s/\\(\\(a\\)\\)/\\1\\2\\3/", "s,\\(a\\),\\,\\1\\2,", "s/[[.a.]]/x/")
	allRead(t, regex2, "p\ns/\\(/x/", ";\ns/a/\\1/;k")
	reads(t, [2]string{"s/\\(a\\)/\\1/", "s/\\(a\\)/\\1/"}, [2]string{"s/a/\\\\1/", "s/a/\\\\1/"}, [2]string{"s/a/\\&/", "s/a/\\&/"}, [2]string{"s1a1\\11", "s1a1\\11"})
}

// P19.1: flags are told in the order g, p, i, number; each stands at most once.
func TestFlags(t *testing.T) {
	letters := list("g", "p", "i", "3")
	for _, f := range everyText(4, letters...) {
		want := "s/a/b/"
		for _, l := range letters {
			if strings.Count(f, l) > 1 && l != "3" {
				want = script1
				break
			}
			if strings.Contains(f, l) {
				want += l
			}
		}
		if n := strings.Count(f, "3"); n > 1 && want != script1 {
			number := times(n, "3")
			want = strings.TrimSuffix(want, "3") + number
			if !strings.Contains(f, number) || n > 3 {
				want = script1
			}
		}
		allRead(t, want, "s/a/b/"+f, "s/a/b/"+f+" ", "s/a/b/"+f+" \t;")
	}
	reads(t, [2]string{"s/a/b/igp12;p", "s/a/b/gpi12\np"}, [2]string{"{s,a,b,2g}", "{\ns,a,b,g2\n}"}, [2]string{"s/a/b/p\n", "s/a/b/p"})
	allRead(t, script1, "s/a/b/x", "s/a/b/G", "s/a/b/I", "s/a/b/P", "s/a/b/w", "s/a/b/m", "s/a/b/-1", "s/a/b/+1", "s/a/b/ g", "s/a/b/g p", "s/a/b/1 2", "s/a/b/,", "s/a/b//", "s/a/b/1,2", "s/a/b/ggg", "s/a/b/1g1", "s/a/b/e")
}

// P19.1: a flag's number is from 1 to 512, and told without noughts ahead.
func TestNumbersOfFlags(t *testing.T) {
	for n := range 600 {
		want := fmt.Sprintf("s/a/b/%d", n)
		if n == 0 || n > 512 {
			want = script1
		}
		allRead(t, want, fmt.Sprintf("s/a/b/%d", n), fmt.Sprintf("s/a/b/0%d", n), fmt.Sprintf("s/a/b/%025d", n))
	}
	allRead(t, script1, "s/a/b/999999999999999999", "s/a/b/1000000000000000001", "s/a/b/18446744073709551617", "s/a/b/4294967297", "s/a/b/"+times(3000, "9"), "s/a/b/"+times(3000, "0"), "s/a/b/00", "s/a/b/g0", "s/a/b/0g")
	reads(t, [2]string{"s/a/b/" + times(4000, "0") + "512p", "s/a/b/p512"})
}

// P19.2: s is chapter 13's Replace.
func TestSubstitution(t *testing.T) {
	tells(t, "aaaa\n",
		[2]string{"s/a/b/", "baaa\n"}, [2]string{"s/a/b/1", "baaa\n"}, [2]string{"s/a/b/2", "abaa\n"}, [2]string{"s/a/b/4", "aaab\n"}, [2]string{"s/a/b/5", "aaaa\n"}, [2]string{"s/a/b/512", "aaaa\n"},
		[2]string{"s/a/b/g", "bbbb\n"}, [2]string{"s/a/b/g1", "bbbb\n"}, [2]string{"s/a/b/2g", "abbb\n"}, [2]string{"s/a/b/g4", "aaab\n"}, [2]string{"s/a/b/g5", "aaaa\n"}, [2]string{"s/a/b/02", "abaa\n"},
		[2]string{"s/a*/b/g", "b\n"}, [2]string{"s/x*/-/g", "-a-a-a-a-\n"}, [2]string{"s/x*/-/5", "aaaa-\n"}, [2]string{"s/$/!/", "aaaa!\n"}, [2]string{"s/^a/b/g", "baaa\n"}, [2]string{"s/aa/&&x/g", "aaaaxaaaax\n"}, [2]string{"s/a/\\&/", "&aaa\n"},
		[2]string{"s/a/\\n/2", "a\naa\n"}, [2]string{"s/\\(a\\)\\(a\\)/\\2-\\1/g", "a-aa-a\n"}, [2]string{"s/a/\\q\\\\/", "q\\aaa\n"}, [2]string{"s/.*//", "\n"}, [2]string{"s/A/b/", "aaaa\n"},
	)
	tells(t, "aAbB\n", [2]string{"s/a/x/ig", "xxbB\n"}, [2]string{"s/A/x/gi", "xxbB\n"}, [2]string{"s/[b]/x/2i", "aAbx\n"}, [2]string{"s/aa/x/i", "xbB\n"}, [2]string{"s/aa/x/", "aAbB\n"}, [2]string{"s/B/b/", "aAbb\n"}, [2]string{"/A/s/b/x/i", "aAxB\n"})
	tells(t, times(512, "a")+"\n", [2]string{"s/a/b/512", times(511, "a") + "b\n"}, [2]string{"s/a/b/g512", times(511, "a") + "b\n"}, [2]string{"s/a/b/511g", times(510, "a") + "bb\n"})
	tells(t, "\xff\x00\xfe\n", [2]string{"s/\xff/x/", "x\x00\xfe\n"}, [2]string{"s/./\x80/g", "\x80\x80\x80\n"}, [2]string{"s\xff.\xff\\\xff\xff2", "\xff\xff\xfe\n"})
}

// P19.2: with p the space is told, if something was replaced, be it by the same.
func TestSubstitutionTold(t *testing.T) {
	hushed(t, "ab\nb\naa\n", [2]string{"s/a/x/p", "xb\nxa\n"}, [2]string{"s/a/x/gp", "xb\nxx\n"}, [2]string{"s/a/x/2p", "ax\n"}, [2]string{"s/a/a/p", "ab\naa\n"}, [2]string{"s/c/x/p", ""}, [2]string{"s/x*/&/p", "ab\nb\naa\n"}, [2]string{"s/a/x/p;s/x/y/p", "xb\nyb\nxa\nya\n"}, [2]string{"s/b/\\n/p", "a\n\n\n\n"}, [2]string{"s/A/x/pi", "xb\nxa\n"})
	tells(t, "ab\nb\n", [2]string{"s/a/x/p", "xb\nxb\nb\n"}, [2]string{"s/a/x/", "xb\nb\n"})
}

// P19.1: y takes two texts of the same length; no byte stands twice in the first one.
func TestTextsOfY(t *testing.T) {
	good := list("y/a/b/", "y/ab/ba/", "y///", "y,abc,xyz,", "y/abc/xxx/", "y/a/a/", "y/\\n/a/", "y/a/\\n/", "y/\\\\/a/", "y/\\//a/", "y/a/\\//", "y/\\\\\\n\\//abc/", "y/abc/\\\\\\n\\//", "y|/|\\||", "y/;}/{ /", "y/ab/\\n\\n/", "y/n\\n/ab/")
	for _, s := range good {
		reads(t, [2]string{s, s}, [2]string{"2,3!" + s + " ;p", "2,3!" + s + "\np"}, [2]string{"{" + s + "}", "{\n" + s + "\n}"})
		allRead(t, script1, s+"g", s+" p", s+"1", s+"i", s+"/")
	}
	allRead(t, script1, "y/a//", "y//a/", "y/ab/c/", "y/a/bc/", "y/aa/bc/", "y/aba/xyz/", "y/\\n/ab/", "y/\\n\\n/ab/", "y/\\\\\\\\/ab/", "y/\\/\\//ab/", "y/\\\\/ab/", "y/a\\\\/b/", "y,\\,a\\,,abc,", "y/a/\\/", "y/\\/a/")
	reads(t, [2]string{"y/" + times(300, "a") + "/b/", script1}, [2]string{"y/a/" + times(300, "b") + "/", script1})
}

// P19.2: y goes byte by byte.
func TestExchange(t *testing.T) {
	tells(t, "abcab\n",
		[2]string{"y/abc/ABC/", "ABCAB\n"}, [2]string{"y/ab/ba/", "bacba\n"}, [2]string{"y///", "abcab\n"}, [2]string{"y/abc/bca/", "bcabc\n"}, [2]string{"y/x/a/", "abcab\n"}, [2]string{"y/ab/xx/", "xxcxx\n"}, [2]string{"y/b/\\n/", "a\nca\n\n"},
		[2]string{"y/b/\\\\/", "a\\ca\\\n"}, [2]string{"y/b/\\//", "a/ca/\n"}, [2]string{"y,b,\\,,", "a,ca,\n"}, [2]string{"y/A/x/", "abcab\n"}, [2]string{"2y/a/x/", "abcab\n"},
	)
	tells(t, "a\\n/\n", [2]string{"y/\\\\/x/", "axn/\n"}, [2]string{"y/n/x/", "a\\x/\n"}, [2]string{"y/\\//x/", "a\\nx\n"}, [2]string{"y/\\n/x/", "a\\n/\n"}, [2]string{"y/\\\\n\\//123/", "a123\n"}, [2]string{"y/a\\n/xy/", "x\\n/\n"})
	tells(t, "a\nb\n", [2]string{"N;y/\\n/-/", "a-b\n"}, [2]string{"N;y/\\nab/ab\\n/", "ba\n\n"}, [2]string{"y/\\n/-/", "a\nb\n"})
	all, back := "", ""
	for c := 1; c < 256; c++ {
		if c != '\n' && c != '\\' && c != '/' {
			all += string([]byte{byte(c)})
			back = string([]byte{byte(c)}) + back
		}
	}
	tells(t, all+"\n", [2]string{"y/" + all + "/" + back + "/", back + "\n"}, [2]string{"y/\x00" + all + "/" + all + "\x00/", all[1:] + "\x00\n"})
}
