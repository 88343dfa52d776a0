package inode_test

import (
	"bytes"
	"fmt"
	"slices"
	"testing"

	"tinsel/api"
	"tinsel/inode"
)

// The calls, with the signatures that the chapter lists.
var (
	_ func(int, int) (*inode.Table, api.Errno)                = inode.New
	_ func(*inode.Table) *inode.Table                         = (*inode.Table).Copy
	_ func(*inode.Table, int64)                               = (*inode.Table).Clock
	_ func(*inode.Table) int64                                = (*inode.Table).Now
	_ func(*inode.Table) (int, int, int, int)                 = (*inode.Table).Room
	_ func(*inode.Table, int) bool                            = (*inode.Table).Is
	_ func(*inode.Table) []int                                = (*inode.Table).Used
	_ func(*inode.Table) []int                                = (*inode.Table).Blocks
	_ func(*inode.Table, api.Mode, int, int) (int, api.Errno) = (*inode.Table).Alloc
	_ func(*inode.Table, int, int, int) ([]byte, api.Errno)   = (*inode.Table).Read
	_ func(*inode.Table, int, int, []byte) (int, api.Errno)   = (*inode.Table).Write
	_ func(*inode.Table, int, int) api.Errno                  = (*inode.Table).Truncate
	_ func(*inode.Table, int) (api.Stat, api.Errno)           = (*inode.Table).Stat
	_ func(*inode.Table, int, api.Mode) api.Errno             = (*inode.Table).SetMode
	_ func(*inode.Table, int, int, int) api.Errno             = (*inode.Table).SetOwner
	_ func(*inode.Table, int, int64, int64) api.Errno         = (*inode.Table).SetTimes
	_ func(*inode.Table, int, int) api.Errno                  = (*inode.Table).Links
	_ func(*inode.Table, int) api.Errno                       = (*inode.Table).Hold
	_ func(*inode.Table, int) api.Errno                       = (*inode.Table).Release
	_ func(*inode.Table, int) ([]int, api.Errno)              = (*inode.Table).Owned
)

// plain: what most files of these tests are.
const plain = api.TypeReg | 0o644

// made: a table with no inode in use.
func made(t *testing.T, blocks, inodes int) *inode.Table {
	t.Helper()
	x, e := inode.New(blocks, inodes)
	if x == nil || e != api.OK {
		t.Fatalf("New(%d, %d): %v, %v", blocks, inodes, x, e)
	}
	return x
}

// withFile: a table with room, and inode 1 in use: a regular file.
func withFile(t *testing.T, blocks int) *inode.Table {
	t.Helper()
	x := made(t, blocks, 8)
	alloc(t, x, 1)
	return x
}

// alloc: a regular file, that gets the number want.
func alloc(t *testing.T, x *inode.Table, want int) {
	t.Helper()
	if got, e := x.Alloc(plain, 0, 0); got != want || e != api.OK {
		t.Fatalf("Alloc: %d, %v, want %d", got, e, want)
	}
}

func is(t *testing.T, what string, got, want api.Errno) {
	t.Helper()
	if got != want {
		t.Errorf("%s: %d (%v), want %d (%v)", what, int(got), got, int(want), want)
	}
}

// brief: a text, or how long it is and how it begins.
func brief(s string) string {
	if len(s) <= 300 {
		return fmt.Sprintf("%q", s)
	}
	return fmt.Sprintf("(%d bytes) %q..", len(s), s[:300])
}

// same: are they told alike?
func same(t *testing.T, what string, got, want any) {
	t.Helper()
	if a, b := fmt.Sprint(got), fmt.Sprint(want); a != b {
		t.Errorf("%s: %s, want %s", what, brief(a), brief(b))
	}
}

// wrote: Write answers n.
func wrote(t *testing.T, what string, x *inode.Table, ino, off, n int, b []byte) {
	t.Helper()
	if got, e := x.Write(ino, off, b); got != n || e != api.OK {
		t.Errorf("%s: Write(%d, %d, %d bytes) %d, %v, want %d", what, ino, off, len(b), got, e, n)
	}
}

// put: all of a text is written.
func put(t *testing.T, x *inode.Table, ino, off int, text string) {
	t.Helper()
	wrote(t, "put", x, ino, off, len(text), []byte(text))
}

// noWrite: Write answers this error.
func noWrite(t *testing.T, what string, x *inode.Table, ino, off int, b []byte, want api.Errno) {
	t.Helper()
	if got, e := x.Write(ino, off, b); got != 0 || e != want {
		t.Errorf("%s: Write(%d, %d, %d bytes) %d, %v, want 0, %v", what, ino, off, len(b), got, e, want)
	}
}

// reads: Read answers this text.
func reads(t *testing.T, what string, x *inode.Table, ino, off, n int, want string) {
	t.Helper()
	if b, e := x.Read(ino, off, n); string(b) != want || e != api.OK {
		t.Errorf("%s: Read(%d, %d, %d) %s, %v, want %s", what, ino, off, n, brief(string(b)), e, brief(want))
	}
}

// owns: Owned, and Stat's Blocks.
func owns(t *testing.T, what string, x *inode.Table, ino int, want ...int) {
	t.Helper()
	if l, e := x.Owned(ino); !slices.Equal(l, want) || e != api.OK {
		t.Errorf("%s: Owned(%d) %v, %v, want %v", what, ino, l, e, want)
	}
	if s, e := x.Stat(ino); s.Blocks != len(want) || e != api.OK {
		t.Errorf("%s: Stat's Blocks %d, %v, want %d", what, s.Blocks, e, len(want))
	}
}

// stat: Stat, that answers no error.
func stat(t *testing.T, x *inode.Table, ino int) api.Stat {
	t.Helper()
	s, e := x.Stat(ino)
	if e != api.OK {
		t.Fatalf("Stat(%d): %v", ino, e)
	}
	return s
}

func size(t *testing.T, what string, x *inode.Table, ino, want int) {
	t.Helper()
	if got := stat(t, x, ino).Size; got != want {
		t.Errorf("%s: Size %d, want %d", what, got, want)
	}
}

// room: Room's numbers.
func room(t *testing.T, what string, x *inode.Table, want ...int) {
	t.Helper()
	a, b, c, d := x.Room()
	same(t, what+": Room", []int{a, b, c, d}, want)
}

// upTo: from to below end.
func upTo(from, end int) []int {
	var l []int
	for i := from; i < end; i++ {
		l = append(l, i)
	}
	return l
}

// holds: how many, found out on a copy.
func holds(x *inode.Table, ino int) int {
	c, n := x.Copy(), 0
	for c.Release(ino) == api.OK {
		n++
	}
	return n
}

// picture: all that is to be seen of a table.
func picture(x *inode.Table) string {
	var b bytes.Buffer
	w, f, i, l := x.Room()
	fmt.Fprintln(&b, x.Now(), w, f, i, l, x.Used(), x.Blocks())
	for _, ino := range x.Used() {
		s, e := x.Stat(ino)
		o, g := x.Owned(ino)
		r, h := x.Read(ino, 0, api.MaxFile)
		fmt.Fprintf(&b, "%+v %v %v %v %q %v %d\n", s, e, o, g, r, h, holds(x, ino))
	}
	return b.String()
}

// sound: P2.11.
func sound(t *testing.T, what string, x *inode.Table) {
	t.Helper()
	var all []int
	for _, ino := range x.Used() {
		l, e := x.Owned(ino)
		if e != api.OK {
			t.Errorf("%s: Owned(%d): %v", what, ino, e)
		}
		all = append(all, l...)
	}
	slices.Sort(all)
	if !slices.Equal(all, x.Blocks()) {
		t.Errorf("%s: inodes own %v, in use are %v", what, all, x.Blocks())
	}
	if total, left, _, _ := x.Room(); left+len(all) != total {
		t.Errorf("%s: %d owned and %d left, of %d", what, len(all), left, total)
	}
}

// filled: n bytes that tell where they lie.
func filled(n, seed int) []byte {
	b := make([]byte, n)
	for i := range b {
		b[i] = byte((i/api.Block*7+i*3+seed)%255 + 1)
	}
	return b
}
