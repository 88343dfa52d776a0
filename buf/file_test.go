package buf_test

import (
	"fmt"
	"slices"
	"strings"
	"testing"

	"tinsel/api"
	"tinsel/buf"
	"tinsel/desc"
	"tinsel/fault"
)

// readsFile: ReadFile answers this, beside an error nothing; its calls are
// these many Opens, reads and Closes, and it leaves no descriptor.
func readsFile(t *testing.T, what string, g *fault.Gate, path, want string, e api.Errno, opens, reads, closes int) {
	t.Helper()
	fds := g.Fds()
	calls := []int{g.Count("open"), g.Count("read"), g.Count("close"), g.Calls()}
	b, err := buf.ReadFile(g, path)
	text(t, what, b, want)
	is(t, what, err, e)
	same(t, what+": descriptors", g.Fds(), fds)
	for i, n := range []int{opens, reads, closes, opens + reads + closes} {
		calls[i] += n
	}
	same(t, what+": calls", []int{g.Count("open"), g.Count("read"), g.Count("close"), g.Calls()}, calls)
}

// withFile: a gate with a file /f of these bytes.
func withFile(t *testing.T, bytes string, plan ...api.Choice) *fault.Gate {
	t.Helper()
	p := made(t)
	file(t, p, "/f", bytes)
	return fault.New(p, plan...)
}

// P10.4: all bytes of a file, whatever its size.
func TestReadFile(t *testing.T) {
	for _, n := range append(sizes, 17792) {
		what := fmt.Sprint(n, " bytes")
		g := withFile(t, count(n))
		readsFile(t, what, g, "/f", count(n), api.OK, 1, (n+63)/64+1, 1)
		readsFile(t, what+" again", g, "f", count(n), api.OK, 1, (n+63)/64+1, 1)
		g.Tape(nil) // other descriptors are left alone
		readsFile(t, what+" once more", g, "//f", count(n), api.OK, 1, (n+63)/64+1, 1)
	}
	g := withFile(t, "a\x00\n\xff")
	good(t, "Symlink", g.Proc().Symlink("f", "/l"))
	readsFile(t, "through a link", g, "/l", "a\x00\n\xff", api.OK, 1, 2, 1)
}

// P10.4: it is opened to read alone, and not made.
func TestReadFileOpens(t *testing.T) {
	g := withFile(t, "text")
	good(t, "Chmod", g.Proc().Chmod("/f", 0o444))
	q, e := desc.New(g.FS(), api.Cred{Uid: 7, Gid: 7})
	good(t, "desc.New", e)
	readsFile(t, "may be read", fault.New(q), "/f", "text", api.OK, 1, 2, 1)
	good(t, "Chmod", g.Proc().Chmod("/f", 0o333))
	readsFile(t, "may not be read", fault.New(q), "/f", "", api.EACCES, 1, 0, 0)
	readsFile(t, "not there", g, "/g", "", api.ENOENT, 1, 0, 0)
	readsFile(t, "not there again", g, "/g", "", api.ENOENT, 1, 0, 0)
	st, e := g.Proc().Stat("/f")
	same(t, "Stat", []any{st.Size, st.Mode, st.Mtime, e}, []any{4, api.TypeReg | 0o333, 50, api.OK})
}

// P10.4: paths that lead to nothing that can be read.
func TestReadFileOfOthers(t *testing.T) {
	g := withFile(t, "text")
	good(t, "Mkdir", g.Proc().Mkdir("/d", 0o755))
	good(t, "Symlink", g.Proc().Symlink("self", "/self"))
	good(t, "Symlink", g.Proc().Symlink("no", "/dangling"))
	readsFile(t, "a directory", g, "/d", "", api.EISDIR, 1, 1, 1)
	readsFile(t, "the root", g, "/", "", api.EISDIR, 1, 1, 1)
	for path, e := range map[string]api.Errno{
		"": api.ENOENT, "/no": api.ENOENT, "/no/f": api.ENOENT, "/f/x": api.ENOTDIR, "/f/": api.ENOTDIR, "/self": api.ELOOP, "/dangling": api.ENOENT,
		"a\x00": api.EINVAL, strings.Repeat("a", 28): api.ENAMETOOLONG, strings.Repeat("/", 256): api.ENAMETOOLONG,
	} {
		readsFile(t, fmt.Sprintf("%q", path), g, path, "", e, 1, 0, 0)
	}
	for len(g.Fds()) < api.OpenMax {
		g.Tape(nil)
	}
	readsFile(t, "no descriptor is free", g, "/f", "", api.EMFILE, 1, 0, 0)
	good(t, "Close", g.Proc().Close(7))
	readsFile(t, "one is free", g, "/f", "text", api.OK, 1, 2, 1)
}

// P10.4: an Open that answers EINTR is asked again; another error is the answer.
func TestReadFileOpenFails(t *testing.T) {
	for _, times := range []int{1, 2, 5, 900} {
		g := withFile(t, count(100), interrupted("open", 1, times)...)
		readsFile(t, fmt.Sprint("EINTR ", times, " times"), g, "/f", count(100), api.OK, times+1, 3, 1)
		g = withFile(t, "", append(interrupted("open", 1, times), fails("open", times+1, api.EACCES))...)
		readsFile(t, "then EACCES", g, "/f", "", api.EACCES, times+1, 0, 0)
		g = withFile(t, "", interrupted("open", 1, times)...)
		readsFile(t, "then ENOENT", g, "/g", "", api.ENOENT, times+1, 0, 0)
	}
	for _, e := range []api.Errno{api.EIO, api.ENOSPC, api.EMFILE, api.EACCES, api.EROFS} {
		g := withFile(t, count(100), fails("open", 1, e))
		readsFile(t, fmt.Sprint("Open fails by ", e), g, "/f", "", e, 1, 0, 0)
		readsFile(t, "the next one", g, "/f", count(100), api.OK, 1, 3, 1)
	}
}

// P10.4: an error at a read: no bytes, that error, and the file is closed.
func TestReadFileReadFails(t *testing.T) {
	for nth := 1; nth <= 4; nth++ {
		for _, e := range readErrors {
			g := withFile(t, count(180), fails("read", nth, e))
			readsFile(t, fmt.Sprint("read ", nth, " fails by ", e), g, "/f", "", e, 1, nth, 1)
			readsFile(t, "the next one", g, "/f", count(180), api.OK, 1, 4, 1)
		}
	}
	plan := slices.Concat(interrupted("read", 1, 3), []api.Choice{short("read", 4, 1), short("read", 5, 60)}, interrupted("read", 6, 1))
	g := withFile(t, count(100), plan...)
	readsFile(t, "EINTR and short reads", g, "/f", count(100), api.OK, 1, 8, 1)
	given(t, g, plan...)
}

// P10.4: an error at Close: no bytes, that error, if none stuck ahead of it.
// By chapter 8 such a Close has done nothing: the descriptor is still there.
func TestReadFileCloseFails(t *testing.T) {
	for _, n := range []int{0, 1, 100} {
		for _, stuck := range []bool{false, true} {
			plan := []api.Choice{fails("close", 1, api.EIO)}
			want := api.EIO
			path := "/f"
			if stuck { // by another error than Close's
				path, want = "/", api.EISDIR
			}
			g := withFile(t, count(n), plan...)
			b, e := buf.ReadFile(g, path)
			text(t, "Close fails", b, "")
			is(t, "Close fails", e, want)
			same(t, "Closes", g.Count("close"), 1)
			same(t, "descriptors", g.Fds(), []int{0})
			given(t, g, plan...)
			readsFile(t, "the next one", g, "/f", count(n), api.OK, 1, (n+63)/64+1, 1)
		}
	}
}

// P10.4: a file that is open, or has no name any more, or is written: what it has is told.
func TestReadFileWhileOpen(t *testing.T) {
	g := withFile(t, "text")
	w := buf.NewWriter(g, opened(t, g.Proc(), "/f", api.Write|api.Append))
	w.Text("kept")
	readsFile(t, "kept", g, "/f", "text", api.OK, 1, 2, 1)
	is(t, "Flush", w.Flush(), api.OK)
	readsFile(t, "written", g, "/f", "textkept", api.OK, 1, 2, 1)
	good(t, "Unlink", g.Proc().Unlink("/f"))
	readsFile(t, "without a name", g, "/f", "", api.ENOENT, 1, 0, 0)
}
