package sed_test

import (
	"strings"
	"testing"
)

// P19.2: at a cycle's end the space is told, unless quiet; the last line ends as it did.
func TestCycles(t *testing.T) {
	for _, in := range list("", "\n", "a\n", "a", "a\nb\n", "a\nb", "\n\n", "\n\na", "a\n\n", "\x00\xff\r\n\t") {
		for _, s := range list("", "{}", "b", "t", ":a", "x;x", "9d", "!d", "h", "h;g", "$!n", "$b;n", "h;x", "n;n;n;n", "N;N;N;N", "N;N;N;N;d") {
			tells(t, in, [2]string{s, in})
			hushed(t, in, [2]string{s, ""})
		}
		first, _, more := strings.Cut(in, "\n")
		if more {
			first += "\n"
		}
		tells(t, in, [2]string{"q", first}, [2]string{"d", ""}, [2]string{"D", ""}, [2]string{"1!d", first})
		hushed(t, in, [2]string{"q", ""}, [2]string{"d", ""}, [2]string{"D", ""}, [2]string{"s/a/b/", ""})
	}
}

// P19.2: what is told of the last line at its cycle's end has no line feed, if that line has none.
func TestLastLineThatIsNotEnded(t *testing.T) {
	tells(t, "a\nb",
		[2]string{"s/$/!/", "a!\nb!"}, [2]string{"$!d", "b"}, [2]string{"$d", "a\n"}, [2]string{"1q", "a\n"}, [2]string{"2q", "a\nb"}, [2]string{"N;s/^/-/", "-a\nb"}, [2]string{"N", "a\nb"}, [2]string{"n;s/^/-/", "a\n-b"},
		[2]string{"G", "a\n\nb\n"}, [2]string{"1!G;h;$!d", "b\na"}, [2]string{"p", "a\na\nb\nb"}, [2]string{"=", "1\na\n2\nb"}, [2]string{"i x", "x\na\nx\nb"}, [2]string{"s/./\\n/", "\n\n\n"}, [2]string{"y/b/\\n/", "a\n\n"}, [2]string{"$!{h;d};x", "a"}, [2]string{"2c x", "a\nx\n"}, [2]string{"1c x", "x\nb"},
	)
	tells(t, "a", [2]string{"N", "a"}, [2]string{"n", "a"}, [2]string{"q", "a"}, [2]string{"x", ""}, [2]string{"c y", "y\n"}, [2]string{"d", ""}, [2]string{"s/a//", ""}, [2]string{"$=", "1\na"}, [2]string{"h;G", "a\na"})
}

// P19.2: = tells the line's number.
func TestNumberOfTheLine(t *testing.T) {
	tells(t, "a\nb\n", [2]string{"=", "1\na\n2\nb\n"}, [2]string{"=;=", "1\n1\na\n2\n2\nb\n"}, [2]string{"$=", "a\n2\nb\n"}, [2]string{"N;=", "2\na\nb\n"}, [2]string{"n;=", "a\n2\nb\n"}, [2]string{"=;n;=", "1\na\n2\nb\n"})
	hushed(t, ended(9999), [2]string{"$=", "9999\n"})
}

// P19.2: d begins the next cycle, and its end tells no space.
func TestDelete(t *testing.T) {
	tells(t, "a\nb\nc\n", [2]string{"2d", "a\nc\n"}, [2]string{"1,2d", "c\n"}, [2]string{"/b/d;s/$/!/", "a!\nc!\n"}, [2]string{"$!d", "c\n"}, [2]string{"p;d;p", "a\nb\nc\n"}, [2]string{"N;2d", "c\n"}, [2]string{"x;d", ""}, [2]string{"2{d;p}", "a\nc\n"}, [2]string{"$!{$!{d}}", "c\n"})
}

// P19.2: D takes the first line of the space, and reads none, if more is left.
func TestDeleteFirst(t *testing.T) {
	in := "a\nb\nc\n"
	tells(t, in, [2]string{"$!N;P;D", in}, [2]string{"D;p", ""}, [2]string{"N;D", "c\n"}, [2]string{"2D", "a\nc\n"}, [2]string{"$!N;$!D", "b\nc\n"}, [2]string{"/a/s/$/\\nx\\ny/;=;D", "1\n1\n1\n2\n3\n"}, [2]string{"/a/s/$/\\n/;D", ""})
}

// P19.2: n tells the space, and the next line is the space; without one it is the end.
func TestNext(t *testing.T) {
	in := "a\nb\nc\n"
	tells(t, in, [2]string{"n;d", "a\nc\n"}, [2]string{"n;n;s/$/!/", "a\nb\nc!\n"}, [2]string{"$!n;=", "a\n2\nb\n3\nc\n"}, [2]string{"s/$/!/;n", "a!\nb\nc!\n"}, [2]string{"n;n;n;i x", in}, [2]string{"1d;n;d", "b\n"}, [2]string{"2!n;s/$/!/", "a\nb!\nc\n"}, [2]string{"n;n;n;d", in})
	hushed(t, in, [2]string{"n;p", "b\n"}, [2]string{"p;n", "a\nc\n"}, [2]string{"n;n;p", "c\n"}, [2]string{"n;n;n;p", ""}, [2]string{"$n;p", "a\nb\n"})
}

// P19.2: N puts the next line behind the space; without one it is the end.
func TestNextBehind(t *testing.T) {
	in := "a\nb\nc\n"
	tells(t, in, [2]string{"N;s/^/-/", "-a\nb\nc\n"}, [2]string{"N;N;s/^/-/;s/$/-/", "-a\nb\nc-\n"}, [2]string{"N;P", "a\na\nb\nc\n"}, [2]string{"$!N;s/$/!/", "a\nb!\nc!\n"}, [2]string{":a;$!{N;ba\n};y/\\n/ /", "a b c\n"}, [2]string{"N;N;N;d", in}, [2]string{"1!N;y/\\n/+/", "a\nb+c\n"}, [2]string{"N;d", "c\n"})
	hushed(t, in, [2]string{"N;p", "a\nb\n"}, [2]string{"N;N;N;p", ""}, [2]string{"N;N;p", in}, [2]string{"p;N", "a\nc\n"})
	hushed(t, "\n\nx\n", [2]string{"N;N;y/\\n/./;p", "..x\n"})
}

// P19.2: g, G, h, H and x; the hold space is empty at the beginning.
func TestHoldSpace(t *testing.T) {
	tells(t, "a\nb\n",
		[2]string{"g", "\n\n"}, [2]string{"G", "a\n\nb\n\n"}, [2]string{"x", "\na\n"}, [2]string{"x;x", "a\nb\n"}, [2]string{"h;G", "a\na\nb\nb\n"}, [2]string{"h;s/$/!/;g", "a\nb\n"}, [2]string{"h;s/$/!/;x", "a\nb\n"}, [2]string{"h;s/$/!/;x;x", "a!\nb!\n"},
		[2]string{"H;x", "\na\na\nb\n"}, [2]string{"H;g", "\na\n\na\nb\n"}, [2]string{"H;H;x", "\na\na\na\nb\nb\n"}, [2]string{"x;G", "\na\na\nb\n"}, [2]string{"1h;2g", "a\na\n"}, [2]string{"1h;2G", "a\nb\na\n"}, [2]string{"1h;1!H;$!d;x", "a\nb\n"}, [2]string{"$!{h;d};G", "b\na\n"}, [2]string{"1h;$x;$G", "a\na\nb\n"}, [2]string{"G;G", "a\n\n\nb\n\n\n"}, [2]string{"h;h;g;g", "a\nb\n"}, [2]string{"h;d", ""}, [2]string{"1{h;d};x;G", "a\nb\n"},
	)
	p := parsed(t, "x;G")
	told(t, "once", ran(p, "a\n", false), "\na\n")
	told(t, "once more", ran(p, "b\n", false), "\nb\n")
}

// P19.2: p tells the space, P its first line.
func TestPrint(t *testing.T) {
	tells(t, "a\nb\n", [2]string{"p", "a\na\nb\nb\n"}, [2]string{"P", "a\na\nb\nb\n"}, [2]string{"2p;2p", "a\nb\nb\nb\n"})
	hushed(t, "a\nb\n", [2]string{"p", "a\nb\n"}, [2]string{"P", "a\nb\n"}, [2]string{"N;p", "a\nb\n"}, [2]string{"N;P", "a\n"}, [2]string{"G;P", "a\nb\n"}, [2]string{"x;p;P", "\n\na\na\n"}, [2]string{"s/^/\\n/;P", "\n\n"}, [2]string{"s/./&\\n&\\n/;P;p", "a\na\na\n\nb\nb\nb\n\n"})
}

// P19.2: q ends behind its cycle's end.
func TestQuit(t *testing.T) {
	in := "a\nb\nc\n"
	tells(t, in, [2]string{"q", "a\n"}, [2]string{"2q", "a\nb\n"}, [2]string{"9q", in}, [2]string{"2q;s/$/!/", "a!\nb\n"}, [2]string{"N;q", "a\nb\n"}, [2]string{"/b/q;d", "b\n"}, [2]string{"p;q", "a\na\n"}, [2]string{"$q", in}, [2]string{"1a x\n1q", "a\nx\n"}, [2]string{"a x\nq", "a\nx\n"}, [2]string{"s/$/\\nx/;q;D", "a\nx\n"})
	hushed(t, in, [2]string{"q", ""}, [2]string{"p;2q", "a\nb\n"}, [2]string{"a x\n2q", "x\nx\n"})
}

// P19.2: { leads behind its }, if it does not fit.
func TestGroups(t *testing.T) {
	in := "a\nb\nc\n"
	tells(t, in, [2]string{"2{s/$/!/;s/$/?/};s/^/-/", "-a\n-b!?\n-c\n"}, [2]string{"2!{s/$/!/};s/^/-/", "-a!\n-b\n-c!\n"}, [2]string{"{p;d}", in}, [2]string{"1,2{2{s/^/-/};s/$/!/}", "a!\n-b!\nc\n"}, [2]string{"2{};s/$/!/", "a!\nb!\nc!\n"}, [2]string{"4{d};p;d", in}, [2]string{"1{2{d}};3{{d}}", "a\nb\n"}, [2]string{"1!{2!{d};s/^/-/};2{{}}", "a\n-b\n"}, [2]string{"1{s/a/b/;{s/b/c/;{s/c/d/}}}", "d\nb\nc\n"})
}

// P19.2: b goes on behind its label, or behind all.
func TestBranch(t *testing.T) {
	in := "a\nb\nc\n"
	tells(t, in, [2]string{"2b;s/$/!/", "a!\nb\nc!\n"}, [2]string{"bx;d;:x", in}, [2]string{"2bx;s/^/-/;:x;s/$/!/", "-a!\nb!\n-c!\n"}, [2]string{"bx;{d;:x;s/$/!/;}", "a!\nb!\nc!\n"}, [2]string{"2{b\nd\n};s/$/!/", "a!\nb\nc!\n"}, [2]string{"$!{s/$/!/;bend\n};s/^/-/;:end", "a!\nb!\n-c\n"}, [2]string{":a;s/^/-/;/---/!ba", "---a\n---b\n---c\n"}, [2]string{"bA;:a;d;:A", in}, [2]string{"2!b;:x;s/^/x/;/xxx/b;bx", "a\nxxxb\nc\n"})
}

// P19.2: t goes, if an s has replaced something since the last line was read, or since a t that went.
func TestBranchIfReplaced(t *testing.T) {
	tells(t, "a\nb\n",
		[2]string{"s/a/x/;t;s/$/!/", "x\nb!\n"}, [2]string{"s/a/a/;t;s/$/!/", "a\nb!\n"}, [2]string{"s/a/x/;s/q/r/;t;s/$/!/", "x\nb!\n"}, [2]string{"t;s/$/!/", "a!\nb!\n"}, [2]string{"s/a/x/;tz;s/$/!/;:z;s/^/-/", "-x\n-b!\n"},
		[2]string{"s/a/x/;ty;:y;tz;s/$/1/;b;:z;s/$/2/", "x1\nb1\n"}, [2]string{"s/./x/;ty;:y;s/x/y/;t;s/$/!/", "y\ny\n"}, [2]string{"s/a/x/;n;t;s/$/!/", "x\nb!\n"}, [2]string{"s/a/x/;N;t;s/$/!/", "x\nb!\n"}, [2]string{"1s/a/x/;1b;t;s/$/!/", "x\nb!\n"},
		[2]string{"/a/{s/a/x\\ny/;D;};t;s/$/!/", "y\nb!\n"}, [2]string{"1s/a/x/;1d;t;s/$/!/", "b!\n"}, [2]string{"y/a/x/;t;s/$/!/", "x!\nb!\n"}, [2]string{"s/x*/-/2;t;s/$/!/", "a-\nb-\n"}, [2]string{"s/a/x/2;t;s/$/!/", "a!\nb!\n"}, [2]string{"s/a/x/;x;x;p;t;s/$/!/", "x\nx\nb\nb!\n"},
	)
	tells(t, "axbxc\nxx\n", [2]string{":a;s/x//;ta", "abc\n\n"}, [2]string{":a;s/x/-/;ta;s/$/!/", "a-b-c!\n--!\n"})
	tells(t, "1234567\n12\n", [2]string{":a;s/\\(.*[0-9]\\)\\([0-9]\\{3\\}\\)/\\1,\\2/;ta", "1,234,567\n12\n"})
}
