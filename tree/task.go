package tree

import (
	"slices"

	"tinsel/api"
	"tinsel/dir"
	"tinsel/inode"
	"tinsel/perm"
)

// What one may want to do with a file, by perm's bits.
const (
	search = 1
	write  = 2
	read   = 4
)

// task is one call on a file system: its inodes, who calls, and what gives
// back all that was taken so far, if the call fails.
type task struct {
	inodes *inode.Table
	who    api.Cred
	back   []func()
}

// ask: what a call answers. Work gives up by a panic with the error, however
// deep inside it is.
func ask[T any](f *FS, who api.Cred, work func(*task) T) (answer T, e api.Errno) {
	if f.table() == nil {
		return answer, api.EFAULT
	}
	t := &task{inodes: f.table(), who: who}
	defer func() {
		switch why := recover().(type) {
		case nil:
			return
		case api.Errno:
			e = why
		default:
			panic(why) // a fault of the program itself, that no answer may hide
		}
		for _, undo := range slices.Backward(t.back) {
			undo()
		}
	}()
	return work(t), api.OK
}

// do: a call that answers an error alone.
func do(f *FS, who api.Cred, work func(*task)) api.Errno {
	_, e := ask(f, who, func(t *task) bool {
		work(t)
		return true
	})
	return e
}

// must: the call gives up, if there is an error.
func must(e api.Errno) {
	if e != api.OK {
		panic(e)
	}
}

// refuse: the call gives up with e, if that is so.
func refuse(e api.Errno, so bool) {
	if so {
		panic(e)
	}
}

// stat: what there is to know of an inode.
func (t *task) stat(ino int) api.Stat {
	st, e := t.inodes.Stat(ino)
	must(e)
	return st
}

// links: by more links.
func (t *task) links(ino, by int) { must(t.inodes.Links(ino, by)) }

// may: may the caller do that with a file?
func (t *task) may(st api.Stat, want int) bool {
	return perm.Access(st.Mode, st.Uid, st.Gid, t.who, want)
}

// owns: root may do what the owner may.
func (t *task) owns(st api.Stat) bool { return t.who.Uid == 0 || t.who.Uid == st.Uid }

// empty: has a directory no names?
func (t *task) empty(d int) bool {
	is, e := dir.Empty(t.inodes, d)
	must(e)
	return is
}

// content: a link's.
func (t *task) content(link api.Stat) string {
	b, e := t.inodes.Read(link.Ino, 0, link.Size)
	must(e)
	return string(b)
}

// kind: a file's type.
func kind(st api.Stat) api.Mode { return st.Mode & api.TypeMask }

// isDir: is it a directory?
func isDir(st api.Stat) bool { return kind(st) == api.TypeDir }

// gone: nothing leads to this directory any more, and none may be made in it.
func gone(d api.Stat) bool { return d.Links == 0 }
