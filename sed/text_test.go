package sed_test

import "testing"

// P19.2: what a tells comes at the cycle's end, or ahead of the line that n or N reads.
func TestAppend(t *testing.T) {
	in := "a\nb\nc\n"
	tells(t, in,
		[2]string{"a x", "a\nx\nb\nx\nc\nx\n"}, [2]string{"2a x", "a\nb\nx\nc\n"}, [2]string{"1a x\n1a y", "a\nx\ny\nb\nc\n"}, [2]string{"1a", "a\n\nb\nc\n"}, [2]string{"1a two  words ", "a\ntwo  words \nb\nc\n"}, [2]string{"1a x;p}", "a\nx;p}\nb\nc\n"}, [2]string{"1a\\n&\\1\\", "a\n\\n&\\1\\\nb\nc\n"},
		[2]string{"1a x\ns/$/!/", "a!\nx\nb!\nc!\n"}, [2]string{"1a x\nn", "a\nx\nb\nc\n"}, [2]string{"1a x\nN", "x\na\nb\nc\n"}, [2]string{"1a x\n1p\n1n\ns/$/!/", "a\na\nx\nb!\nc!\n"}, [2]string{"a x\nN;N;N", "x\na\nb\nc\n"}, [2]string{"a x\nd", "x\nx\nx\n"}, [2]string{"$a x\nn;n", in}, [2]string{"1{a x\nb\n}\nd", "a\nx\n"},
	)
	tells(t, "a\n", [2]string{"a x\nn", "a\nx\n"}, [2]string{"a x\nN", "a\nx\n"}, [2]string{"a x\nq", "a\nx\n"}, [2]string{"a x\ni y", "y\na\nx\n"}, [2]string{"a x\nc y", "y\nx\n"}, [2]string{"a x\nD", "x\n"}, [2]string{"a x\n=;p", "1\na\na\nx\n"})
	hushed(t, in, [2]string{"a x", "x\nx\nx\n"}, [2]string{"1a x\nn;p", "x\nb\n"}, [2]string{"a x\nN;N;p", "x\na\nb\nc\n"}, [2]string{"a x\n2q", "x\nx\n"}, [2]string{"$!d;a x", "x\n"})
	p := parsed(t, "a x\n:a;ba")
	told(t, "what a told is not told", ran(p, in, false), flawed(1, 103))
	told(t, "nor the next time", ran(parsed(t, "a x"), "y\n", false), "y\nx\n")
}

// P19.2: i tells its text at once.
func TestInsert(t *testing.T) {
	in := "a\nb\n"
	tells(t, in, [2]string{"i x", "x\na\nx\nb\n"}, [2]string{"2i x", "a\nx\nb\n"}, [2]string{"p;i x", "a\nx\na\nb\nx\nb\n"}, [2]string{"1i x\n1i y", "x\ny\na\nb\n"}, [2]string{"i", "\na\n\nb\n"}, [2]string{"i x\nd", "x\nx\n"}, [2]string{"N;i x", "x\na\nb\n"}, [2]string{"i \\t;}", "\\t;}\na\n\\t;}\nb\n"}, [2]string{"n;i x", "a\nx\nb\n"}, [2]string{"1q;i x", "a\n"})
	hushed(t, in, [2]string{"i x", "x\nx\n"}, [2]string{"$i x", "x\n"})
}

// P19.2: c tells its text at once, or at the last line of two addresses; then as d.
func TestReplaceLines(t *testing.T) {
	in := "a\nb\nc\nd\ne\n"
	tells(t, in,
		[2]string{"c x", "x\nx\nx\nx\nx\n"}, [2]string{"2c x", "a\nx\nc\nd\ne\n"}, [2]string{"$c x", "a\nb\nc\nd\nx\n"}, [2]string{"/[bd]/c x", "a\nx\nc\nx\ne\n"}, [2]string{"3c", "a\nb\n\nd\ne\n"}, [2]string{"c x\np;=", "x\nx\nx\nx\nx\n"}, [2]string{"9c x", in},
		[2]string{"2,4c x", "a\nx\ne\n"}, [2]string{"2,3c x;}", "a\nx;}\nd\ne\n"}, [2]string{"1,5c x", "x\n"}, [2]string{"1,$c x", "x\n"}, [2]string{"/b/,/d/c x", "a\nx\ne\n"}, [2]string{"/[ac]/,/[bd]/c x", "x\nx\ne\n"}, [2]string{"3,3c x", "a\nb\nx\nd\ne\n"}, [2]string{"3,1c x", "a\nb\nx\nd\ne\n"}, [2]string{"/[bd]/,1c x", "a\nx\nc\nx\ne\n"}, [2]string{"$,2c x", "a\nb\nc\nd\nx\n"},
		[2]string{"2,4!c x", "x\nb\nc\nd\nx\n"}, [2]string{"2!c x", "x\nb\nx\nx\nx\n"}, [2]string{"$!c x", "x\nx\nx\nx\ne\n"}, [2]string{"!c x", in}, [2]string{"1,3!c x", "a\nb\nc\nx\nx\n"}, [2]string{"2,4{c x\n}", "a\nx\nx\nx\ne\n"}, [2]string{"2,4{$!c x\n}", "a\nx\nx\nx\ne\n"}, [2]string{"2,4c x\ns/$/!/", "a!\nx\ne!\n"}, [2]string{"p;2,4c x", "a\na\nb\nc\nd\nx\ne\ne\n"},
	)
	hushed(t, in, [2]string{"2,4c x", "x\n"}, [2]string{"c x", "x\nx\nx\nx\nx\n"}, [2]string{"2,4!c x", "x\nx\n"})
	tells(t, in, [2]string{"N;c x", "x\nx\ne\n"}, [2]string{"s/$/\\n/;c x", "x\nx\nx\nx\nx\n"}, [2]string{"n;2,4c x", "a\nc\nx\ne\n"})
}
