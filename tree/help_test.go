package tree_test

import (
	"bytes"
	"fmt"
	"slices"
	"strings"
	"testing"

	"tinsel/api"
	"tinsel/tree"
)

// The calls, with the signatures that the chapter lists.
var (
	_ func(int, int) (*tree.FS, api.Errno)                             = tree.New
	_ func(*tree.FS) *tree.FS                                          = (*tree.FS).Copy
	_ func(*tree.FS, int64)                                            = (*tree.FS).Clock
	_ func(*tree.FS) int64                                             = (*tree.FS).Now
	_ func(*tree.FS, api.Cred, string, bool) (int, api.Errno)          = (*tree.FS).Resolve
	_ func(*tree.FS, api.Cred, string, bool) (api.Stat, api.Errno)     = (*tree.FS).Stat
	_ func(*tree.FS, api.Cred, string, int) api.Errno                  = (*tree.FS).Access
	_ func(*tree.FS, api.Cred, string) (string, api.Errno)             = (*tree.FS).Readlink
	_ func(*tree.FS, api.Cred, string, api.Mode) api.Errno             = (*tree.FS).Mkdir
	_ func(*tree.FS, api.Cred, string) api.Errno                       = (*tree.FS).Rmdir
	_ func(*tree.FS, api.Cred, string, string) api.Errno               = (*tree.FS).Symlink
	_ func(*tree.FS, api.Cred, string, string) api.Errno               = (*tree.FS).Link
	_ func(*tree.FS, api.Cred, string) api.Errno                       = (*tree.FS).Unlink
	_ func(*tree.FS, api.Cred, string, string) api.Errno               = (*tree.FS).Rename
	_ func(*tree.FS, api.Cred, string, api.Mode) api.Errno             = (*tree.FS).Chmod
	_ func(*tree.FS, api.Cred, string, int, int, bool) api.Errno       = (*tree.FS).Chown
	_ func(*tree.FS, api.Cred, string, int64, int64, bool) api.Errno   = (*tree.FS).Utime
	_ func(*tree.FS, api.Cred, string, int) api.Errno                  = (*tree.FS).Truncate
	_ func(*tree.FS, api.Cred, string, int, api.Mode) (int, api.Errno) = (*tree.FS).Open
	_ func(*tree.FS, api.Cred, string) (int, api.Errno)                = (*tree.FS).Dir
	_ func(*tree.FS, int) api.Errno                                    = (*tree.FS).Hold
	_ func(*tree.FS, int) api.Errno                                    = (*tree.FS).Release
	_ func(*tree.FS, int, int, int) ([]byte, api.Errno)                = (*tree.FS).ReadAt
	_ func(*tree.FS, int, int, []byte) (int, api.Errno)                = (*tree.FS).WriteAt
	_ func(*tree.FS, int, int) api.Errno                               = (*tree.FS).Resize
	_ func(*tree.FS, int) (api.Stat, api.Errno)                        = (*tree.FS).Info
	_ func(*tree.FS, int) ([]api.Entry, api.Errno)                     = (*tree.FS).Entries
	_ func(*tree.FS, int) (string, api.Errno)                          = (*tree.FS).Path
	_ func(*tree.FS, int) ([]int, api.Errno)                           = (*tree.FS).Owned
	_ func(*tree.FS) []int                                             = (*tree.FS).Used
	_ func(*tree.FS) []int                                             = (*tree.FS).Inodes
	_ func(*tree.FS) (int, int, int, int)                              = (*tree.FS).Statfs
)

// Who calls: root, and two others.
var (
	root = api.Cred{}
	ann  = api.Cred{Uid: 7, Gid: 70}
	bob  = api.Cred{Uid: 8, Gid: 80, Groups: []int{81, 82}}
)

// in: the same one, who stands in that directory.
func in(c api.Cred, cwd int) api.Cred {
	c.Cwd = cwd
	return c
}

// masked: the same one, with that umask.
func masked(c api.Cred, umask int) api.Cred {
	c.Umask = umask
	return c
}

// letters: a name of n bytes.
func letters(n int) string { return strings.Repeat("n", n) }

func is(t *testing.T, what string, got, want api.Errno) {
	t.Helper()
	if got != want {
		t.Errorf("%s: %d (%v), want %d (%v)", what, int(got), got, int(want), want)
	}
}

// brief: a text quoted, or how it begins and how long it is.
func brief(s string) string {
	if len(s) <= 300 {
		return fmt.Sprintf("%q", s)
	}
	return fmt.Sprintf("%q.. (%d bytes)", s[:300], len(s))
}

// same: are they told alike?
func same(t *testing.T, what string, got, want any) {
	t.Helper()
	if a, b := fmt.Sprint(got), fmt.Sprint(want); a != b {
		t.Errorf("%s: %s, want %s", what, brief(a), brief(b))
	}
}

// made: a new file system.
func made(t *testing.T, blocks, inodes int) *tree.FS {
	t.Helper()
	f, e := tree.New(blocks, inodes)
	if f == nil || e != api.OK {
		t.Fatalf("New(%d, %d): %v, %v", blocks, inodes, f, e)
	}
	return f
}

// good: a call that all else in a test hangs on.
func good(t *testing.T, what string, e api.Errno) {
	t.Helper()
	if e != api.OK {
		t.Fatalf("%s: %d (%v)", what, int(e), e)
	}
}

// mkdir: new directories of root's, mode 0755.
func mkdir(t *testing.T, f *tree.FS, l ...string) {
	t.Helper()
	for _, p := range l {
		good(t, "Mkdir "+p, f.Mkdir(root, p, 0o755))
	}
}

// file: a new file of root's with a content, mode 0644; its inode.
func file(t *testing.T, f *tree.FS, p, content string) int {
	t.Helper()
	ino, e := f.Open(root, p, api.Write|api.Create|api.Excl, 0o644)
	good(t, "Open "+p, e)
	write(t, f, ino, 0, content)
	good(t, "Release", f.Release(ino))
	return ino
}

// write: all of a text.
func write(t *testing.T, f *tree.FS, ino, off int, text string) {
	t.Helper()
	if n, e := f.WriteAt(ino, off, []byte(text)); n != len(text) || e != api.OK {
		t.Fatalf("WriteAt(%d, %d, %d bytes): %d, %v", ino, off, len(text), n, e)
	}
}

// symlink: a new link of root's.
func symlink(t *testing.T, f *tree.FS, target, p string) {
	t.Helper()
	good(t, "Symlink "+p, f.Symlink(root, target, p))
}

// chmod, chown: by root.
func chmod(t *testing.T, f *tree.FS, p string, mode api.Mode) {
	t.Helper()
	good(t, "Chmod "+p, f.Chmod(root, p, mode))
}

func chown(t *testing.T, f *tree.FS, p string, c api.Cred) {
	t.Helper()
	good(t, "Chown "+p, f.Chown(root, p, c.Uid, c.Gid, false))
}

// inode: what a path leads to, a link itself.
func inode(t *testing.T, f *tree.FS, p string) int {
	t.Helper()
	ino, e := f.Resolve(root, p, false)
	good(t, "Resolve "+p, e)
	return ino
}

// stat: what there is to know of it.
func stat(t *testing.T, f *tree.FS, p string) api.Stat {
	t.Helper()
	st, e := f.Stat(root, p, false)
	good(t, "Stat "+p, e)
	return st
}

// info: what there is to know of an inode.
func info(t *testing.T, f *tree.FS, ino int) api.Stat {
	t.Helper()
	st, e := f.Info(ino)
	good(t, fmt.Sprint("Info ", ino), e)
	return st
}

// leads: a path leads to that inode, with links followed and without.
func leads(t *testing.T, f *tree.FS, c api.Cred, p string, want int) {
	t.Helper()
	for _, follow := range []bool{true, false} {
		if got, e := f.Resolve(c, p, follow); got != want || e != api.OK {
			t.Errorf("Resolve %s, %v: %d, %v, want %d", brief(p), follow, got, e, want)
		}
	}
}

// leadsTo: it does with links followed or without.
func leadsTo(t *testing.T, f *tree.FS, c api.Cred, p string, follow bool, want int) {
	t.Helper()
	if got, e := f.Resolve(c, p, follow); got != want || e != api.OK {
		t.Errorf("Resolve %s, %v: %d, %v, want %d", brief(p), follow, got, e, want)
	}
}

// leadsNowhere: this is the error, whether links are followed or not, and beside it nothing.
func leadsNowhere(t *testing.T, f *tree.FS, c api.Cred, p string, want api.Errno) {
	t.Helper()
	for _, follow := range []bool{true, false} {
		nowhere(t, f, c, p, follow, want)
	}
}

// nowhere: it is with links followed or without.
func nowhere(t *testing.T, f *tree.FS, c api.Cred, p string, follow bool, want api.Errno) {
	t.Helper()
	if got, e := f.Resolve(c, p, follow); got != 0 || e != want {
		t.Errorf("Resolve %s, %v: %d, %v, want %v", brief(p), follow, got, e, want)
	}
	if got, e := f.Stat(c, p, follow); got != (api.Stat{}) || e != want {
		t.Errorf("Stat %s, %v: %+v, %v, want %v", brief(p), follow, got, e, want)
	}
}

// opens: Open answers that inode, which is let go again.
func opens(t *testing.T, f *tree.FS, c api.Cred, p string, flags int, mode api.Mode, want int) {
	t.Helper()
	got, e := f.Open(c, p, flags, mode)
	if got != want || e != api.OK {
		t.Errorf("Open %s, %d: %d, %v, want %d", brief(p), flags, got, e, want)
		return
	}
	is(t, "Release", f.Release(got), api.OK)
}

// noOpen: Open answers this error, and beside it nothing.
func noOpen(t *testing.T, f *tree.FS, c api.Cred, p string, flags int, want api.Errno) {
	t.Helper()
	if got, e := f.Open(c, p, flags, 0o644); got != 0 || e != want {
		t.Errorf("Open %s, %d: %d, %v, want %v", brief(p), flags, got, e, want)
	}
}

// spare: the blocks and the inodes that are left.
func spare(f *tree.FS) (int, int) {
	_, blocks, _, inodes := f.Statfs()
	return blocks, inodes
}

// room: how many blocks and how many inodes are left.
func room(t *testing.T, what string, f *tree.FS, blocks, inodes int) {
	t.Helper()
	if b, i := spare(f); b != blocks || i != inodes {
		t.Errorf("%s: %d blocks and %d inodes are left, want %d and %d", what, b, i, blocks, inodes)
	}
}

// fill: a file of root's that takes all blocks but so many.
func fill(t *testing.T, f *tree.FS, ino, left int) {
	t.Helper()
	for k := 0; ; k++ {
		if n, _ := spare(f); n <= left {
			break
		}
		if k >= api.Direct {
			t.Fatal("too many blocks are left for one file")
		}
		write(t, f, ino, k*api.Block, "x")
	}
	if n, _ := spare(f); n != left {
		t.Fatalf("%d blocks are left, not %d", n, left)
	}
}

// names: a directory's entries, as name and number, in the order of their slots.
func names(t *testing.T, f *tree.FS, p string) string {
	t.Helper()
	l, e := f.Entries(inode(t, f, p))
	good(t, "Entries "+p, e)
	var b strings.Builder
	for _, x := range l {
		fmt.Fprintf(&b, "%s=%d ", x.Name, x.Ino)
	}
	return strings.TrimSpace(b.String())
}

// held: how many holds each inode in use has, counted on a copy.
func held(f *tree.FS) map[int]int {
	n, c := map[int]int{}, f.Copy()
	for _, ino := range f.Inodes() {
		for c.Release(ino) == api.OK {
			n[ino]++
		}
	}
	return n
}

// holds: those of one inode.
func holds(f *tree.FS, ino int) int { return held(f)[ino] }

// picture: all that is to be seen of a file system.
func picture(f *tree.FS) string {
	var b bytes.Buffer
	all, left, inodes, spare := f.Statfs()
	fmt.Fprintln(&b, f.Now(), all, left, inodes, spare, f.Inodes(), f.Used())
	n := held(f)
	for _, ino := range f.Inodes() {
		st, e := f.Info(ino)
		owned, _ := f.Owned(ino)
		entries, _ := f.Entries(ino)
		bytes, _ := f.ReadAt(ino, 0, api.MaxFile)
		path, _ := f.Path(ino)
		fmt.Fprintf(&b, "%+v %v %v %v %q %q %d\n", st, e, owned, entries, bytes, path, n[ino])
	}
	return b.String()
}

// unchanged: a file system is as it was.
func unchanged(t *testing.T, what string, f *tree.FS, was string) {
	t.Helper()
	if got := picture(f); got != was {
		t.Errorf("%s: the file system has changed: %s, was %s", what, brief(got), brief(was))
	}
}

// refused: a call answers this error, and changes nothing, not even a time.
func refused(t *testing.T, what string, f *tree.FS, want api.Errno, call func() api.Errno) {
	t.Helper()
	was, now := picture(f), f.Now()
	f.Clock(now + 1000)
	is(t, what, call(), want)
	f.Clock(now)
	unchanged(t, what, f, was)
}

// P6.15: what holds at each moment.
func sound(t *testing.T, what string, f *tree.FS) {
	t.Helper()
	links, above := map[int]int{}, map[int][]int{}
	up := map[int]int{}
	var owned []int
	for _, d := range f.Inodes() {
		o, e := f.Owned(d)
		if e != api.OK {
			t.Errorf("%s: Owned(%d): %v", what, d, e)
		}
		owned = append(owned, o...)
		l, e := f.Entries(d)
		isDir := info(t, f, d).Mode&api.TypeMask == api.TypeDir
		if (e == api.OK) != isDir {
			t.Errorf("%s: Entries(%d): %v", what, d, e)
		}
		for _, x := range l {
			links[x.Ino]++
			switch x.Name {
			case ".":
				same(t, what+": .", x.Ino, d)
			case "..":
				up[d] = x.Ino
			default:
				above[x.Ino] = append(above[x.Ino], d)
			}
		}
	}
	slices.Sort(owned)
	same(t, what+": no block is shared or lost", owned, f.Used())
	for _, ino := range f.Inodes() {
		st := info(t, f, ino)
		same(t, fmt.Sprint(what, ": links of ", ino), st.Links, links[ino])
		if st.Mode&api.TypeMask != api.TypeDir || st.Links == 0 {
			continue
		}
		if ino == 1 {
			same(t, what+": the root has no name", len(above[1]), 0)
			same(t, what+": the root is above itself", up[1], 1)
			continue
		}
		same(t, fmt.Sprint(what, ": one name of ", ino), above[ino], []int{up[ino]})
		d := ino
		for range f.Inodes() {
			d = up[d]
		}
		same(t, fmt.Sprint(what, ": below the root lies ", ino), d, 1)
	}
	for ino := range links {
		if !slices.Contains(f.Inodes(), ino) {
			t.Errorf("%s: an entry leads to %d, that is not in use", what, ino)
		}
	}
}
