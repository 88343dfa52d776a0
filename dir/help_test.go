package dir_test

import (
	"bytes"
	"fmt"
	"iter"
	"math"
	"strings"
	"testing"

	"tinsel/api"
	"tinsel/dir"
	"tinsel/inode"
)

// The calls, with the signatures that the chapter lists.
var (
	_ func(*inode.Table, int, int) api.Errno            = dir.Init
	_ func(*inode.Table, int, string) (int, api.Errno)  = dir.Find
	_ func(*inode.Table, int, string, int) api.Errno    = dir.Add
	_ func(*inode.Table, int, string, int) api.Errno    = dir.Put
	_ func(*inode.Table, int, string) api.Errno         = dir.Remove
	_ func(*inode.Table, int) ([]api.Entry, api.Errno)  = dir.List
	_ func(*inode.Table, int) (bool, api.Errno)         = dir.Empty
	_ func(*inode.Table, int) (int, api.Errno)          = dir.Spare
	_ func(*inode.Table, int, int) (string, api.Errno)  = dir.Name
	_ func(*inode.Table, int) iter.Seq2[int, api.Entry] = dir.Slots
)

// What is in use in the tables of these tests, and two that are not.
const (
	top     = 1 // a directory with its first two entries
	file    = 2
	link    = 3
	sub     = 4 // a directory of size 0
	unused  = 5
	unused2 = 6
)

// noInodes: numbers that are not in use there, some of them like a good one
// in their lowest bytes.
var noInodes = []int{0, unused, unused2, 7, 4096, 4097, -1, -2, math.MaxInt32, math.MinInt32,
	math.MaxInt, math.MinInt, top + 1<<8, top + 1<<16, top + 1<<32, file + 1<<32, 1 << 32, 1 << 40}

// table: those in use, over so many blocks, of which top takes one.
func table(t *testing.T, blocks int) *inode.Table {
	t.Helper()
	x, e := inode.New(blocks, 6)
	if e != api.OK {
		t.Fatalf("New(%d): %v", blocks, e)
	}
	for i, mode := range []api.Mode{api.TypeDir | 0o755, api.TypeReg | 0o644, api.TypeLink | 0o777, api.TypeDir | 0o700} {
		if ino, e := x.Alloc(mode, 0, 0); ino != i+1 || e != api.OK {
			t.Fatalf("Alloc: %d, %v", ino, e)
		}
	}
	is(t, "Init", dir.Init(x, top, top), api.OK)
	return x
}

// raw: a slot's bytes, told another way.
func raw(ino uint32, name string) string {
	n := string([]byte{byte(ino), byte(ino / 256), byte(ino / 65536), byte(ino / 16777216)})
	return n + name + strings.Repeat("\x00", 28-len(name))
}

// dots: the first two slots of top.
func dots() string { return raw(top, ".") + raw(top, "..") }

// free: a slot that Remove leaves.
func free() string { return strings.Repeat("\x00", 32) }

// letters: a name of n bytes.
func letters(n int) string { return strings.Repeat("n", n) }

// filled: a table where sub's content is this.
func filled(t *testing.T, blocks int, text string) *inode.Table {
	t.Helper()
	x := table(t, blocks)
	put(t, x, sub, 0, text)
	return x
}

// put: all of a text is written, past the calls of this layer.
func put(t *testing.T, x *inode.Table, ino, off int, text string) {
	t.Helper()
	if n, e := x.Write(ino, off, []byte(text)); n != len(text) || e != api.OK {
		t.Fatalf("Write(%d, %d, %d bytes): %d, %v", ino, off, len(text), n, e)
	}
}

// fillUp: file and link take all blocks that are left but so many, in places
// that need no indirect block.
func fillUp(t *testing.T, x *inode.Table, left int) {
	t.Helper()
	for k := range 2 * api.Direct {
		if _, n, _, _ := x.Room(); n > left {
			put(t, x, file+k/api.Direct, k%api.Direct*api.Block, "x")
		}
	}
	if _, n, _, _ := x.Room(); n != left {
		t.Fatalf("%d blocks are left, not %d", n, left)
	}
}

func is(t *testing.T, what string, got, want api.Errno) {
	t.Helper()
	if got != want {
		t.Errorf("%s: %d (%v), want %d (%v)", what, int(got), got, int(want), want)
	}
}

// brief: a text quoted, or how it begins and how long it is.
func brief(s string) string {
	if len(s) <= 300 {
		return fmt.Sprintf("%q", s)
	}
	return fmt.Sprintf("%q.. (%d bytes)", s[:300], len(s))
}

// same: are they told alike?
func same(t *testing.T, what string, got, want any) {
	t.Helper()
	if a, b := fmt.Sprint(got), fmt.Sprint(want); a != b {
		t.Errorf("%s: %s, want %s", what, brief(a), brief(b))
	}
}

// content: all of a directory's bytes.
func content(t *testing.T, what string, x *inode.Table, d int, want string) {
	t.Helper()
	b, e := x.Read(d, 0, api.MaxFile)
	if string(b) != want || e != api.OK {
		t.Errorf("%s: content %s, %v, want %s", what, brief(string(b)), e, brief(want))
	}
}

// finds: Find answers this number.
func finds(t *testing.T, what string, x *inode.Table, d int, name string, want int) {
	t.Helper()
	if got, e := dir.Find(x, d, name); got != want || e != api.OK {
		t.Errorf("%s: Find %s: %d, %v, want %d", what, brief(name), got, e, want)
	}
}

// noFind: Find answers this error, and beside it nothing.
func noFind(t *testing.T, what string, x *inode.Table, d int, name string, want api.Errno) {
	t.Helper()
	if got, e := dir.Find(x, d, name); got != 0 || e != want {
		t.Errorf("%s: Find %s: %d, %v, want 0, %v", what, brief(name), got, e, want)
	}
}

// spare: Spare answers this count.
func spare(t *testing.T, what string, x *inode.Table, d, want int) {
	t.Helper()
	if got, e := dir.Spare(x, d); got != want || e != api.OK {
		t.Errorf("%s: Spare %d, %v, want %d", what, got, e, want)
	}
}

// empty: Empty answers this.
func empty(t *testing.T, what string, x *inode.Table, d int, want bool) {
	t.Helper()
	if got, e := dir.Empty(x, d); got != want || e != api.OK {
		t.Errorf("%s: Empty %v, %v, want %v", what, got, e, want)
	}
}

// names: Name answers this one.
func names(t *testing.T, what string, x *inode.Table, d, ino int, want string) {
	t.Helper()
	if got, e := dir.Name(x, d, ino); got != want || e != api.OK {
		t.Errorf("%s: Name of %d: %q, %v, want %q", what, ino, got, e, want)
	}
}

// noName: Name answers this error, and beside it nothing.
func noName(t *testing.T, what string, x *inode.Table, d, ino int, want api.Errno) {
	t.Helper()
	if got, e := dir.Name(x, d, ino); got != "" || e != want {
		t.Errorf("%s: Name of %d: %q, %v, want none, %v", what, ino, got, e, want)
	}
}

// line: a slot's number and its entry.
func line(k int, x api.Entry) string { return fmt.Sprintf("%d %q %d %o", k, x.Name, x.Ino, x.Kind) }

// gone: what an iterator tells.
func gone(seq iter.Seq2[int, api.Entry]) []string {
	var l []string
	for k, x := range seq {
		l = append(l, line(k, x))
	}
	return l
}

// slot is a slot's number, and an entry there.
type slot struct {
	at int
	api.Entry
}

// tells: Slots tells these, and List the same without their numbers.
func tells(t *testing.T, what string, x *inode.Table, d int, want ...slot) {
	t.Helper()
	var lines, entries []string
	for _, s := range want {
		lines, entries = append(lines, line(s.at, s.Entry)), append(entries, line(0, s.Entry))
	}
	same(t, what+": Slots", gone(dir.Slots(x, d)), lines)
	l, e := dir.List(x, d)
	is(t, what+": List", e, api.OK)
	var listed []string
	for _, y := range l {
		listed = append(listed, line(0, y))
	}
	same(t, what+": List", listed, entries)
}

// stat: Stat, that answers no error.
func stat(t *testing.T, x *inode.Table, ino int) api.Stat {
	t.Helper()
	s, e := x.Stat(ino)
	if e != api.OK {
		t.Fatalf("Stat(%d): %v", ino, e)
	}
	return s
}

// picture: all that is to be seen of a table, but for holds.
func picture(x *inode.Table) string {
	var b bytes.Buffer
	w, f, i, l := x.Room()
	fmt.Fprintln(&b, x.Now(), w, f, i, l, x.Used(), x.Blocks())
	for _, ino := range x.Used() {
		s, e := x.Stat(ino)
		o, g := x.Owned(ino)
		r, h := x.Read(ino, 0, api.MaxFile)
		fmt.Fprintf(&b, "%+v %v %v %v %q %v\n", s, e, o, g, r, h)
	}
	return b.String()
}

// unchanged: a table is as it was.
func unchanged(t *testing.T, what string, x *inode.Table, was string) {
	t.Helper()
	if got := picture(x); got != was {
		t.Errorf("%s: the table has changed: %s, was %s", what, brief(got), brief(was))
	}
}
