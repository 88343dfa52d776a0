package desc_test

import (
	"fmt"
	"math"
	"slices"
	"strings"
	"sync"
	"testing"

	"tinsel/api"
	"tinsel/desc"
)

// The chapter's example.
func TestExamples(t *testing.T) {
	p := made(t)
	fd, e := p.Open("f", api.Create|api.Write, 0o666)
	number(t, "Open", fd, e, 0)
	puts(t, p, 0, "abc", 3)
	seeks(t, p, 0, -1, api.SeekCur, 2)
	noGet(t, p, 0, 1, api.EBADF)
	r, w, e := p.Pipe()
	same(t, "Pipe", []int{r, w, int(e)}, []int{1, 2, 0})
	noGet(t, p, 1, 5, api.EAGAIN)
	is(t, "Close", p.Close(2), api.OK)
	gets(t, p, 1, 5, "")
	n, e := p.Dup2(0, 16)
	none(t, "Dup2", n, e, api.EBADF)
	noSeek(t, p, 0, -1, api.SeekSet, api.EINVAL)
}

// odd: paths, good ones and wrong ones.
var odd = []string{"", "/", ".", "..", "/a", "/a/b/", "no", "/no/x", "/f/x", "\x00", "/\xff\n", letters(28), strings.Repeat("/", 255), strings.Repeat("/", 256), strings.Repeat("a", 5000)}

// numbers: at their ends, and some between.
var numbers = []int{0, 1, 2, 3, 5, -1, -2, 15, 16, 17, 256, math.MaxInt, math.MinInt, math.MaxInt32, math.MinInt32, 1 << 32, 1 << 62}

// each: all calls that answer an error, with any arguments; what they answered.
func each(p *desc.Proc, see func(what string, zero bool, e api.Errno)) {
	for i, path := range odd {
		n := numbers[i%len(numbers)]
		see("Chdir", true, p.Chdir(path))
		see("Mkdir", true, p.Mkdir(path, api.Mode(n)))
		see("Rmdir", true, p.Rmdir(path))
		see("Unlink", true, p.Unlink(path))
		see("Chmod", true, p.Chmod(path, api.Mode(n)))
		see("Chown", true, p.Chown(path, n, -1, i%2 == 0))
		see("Utime", true, p.Utime(path, math.MinInt64, math.MaxInt64, i%2 == 0))
		see("Truncate", true, p.Truncate(path, n))
		see("Access", true, p.Access(path, n))
		s, e := p.Readlink(path)
		see("Readlink", s == "", e)
		st, e := p.Stat(path)
		see("Stat", st == api.Stat{}, e)
		st, e = p.Lstat(path)
		see("Lstat", st == api.Stat{}, e)
		for _, n := range numbers {
			fd, e := p.Open(path, n, api.Mode(n))
			see("Open", fd == 0, e)
		}
		for _, to := range odd {
			see("Link", true, p.Link(path, to))
			see("Rename", true, p.Rename(path, to))
			see("Symlink", true, p.Symlink(path, to))
		}
	}
	for _, n := range numbers {
		st, e := p.Fstat(n)
		see("Fstat", st == api.Stat{}, e)
		b, e := p.Taped(n)
		see("Taped", len(b) == 0, e)
		x, ok, e := p.Readdir(n)
		see("Readdir", x == api.Entry{} && !ok, e)
		fd, e := p.Dup(n)
		see("Dup", fd == 0, e)
		for _, text := range []string{"", "text", count(300)} {
			k, e := p.Write(n, []byte(text))
			see("Write", k == 0, e)
			fd, e := p.Tape([]byte(text))
			see("Tape", fd == 0, e)
		}
		for _, m := range numbers {
			see("Ftruncate", true, p.Ftruncate(n, m))
			b, e := p.Read(n, m)
			see("Read", len(b) == 0, e)
			fd, e := p.Dup2(n, m)
			see("Dup2", fd == 0, e)
			for _, k := range numbers {
				at, e := p.Seek(n, m, k)
				see("Seek", at == 0, e)
			}
		}
		r, w, e := p.Pipe()
		see("Pipe", r == 0 && w == 0, e)
		see("Close", true, p.Close(n))
	}
	s, e := p.Getcwd()
	see("Getcwd", s == "", e)
}

// R1, R2, R5: of a process that no call made all is EFAULT, ahead of all else.
func TestNoProcess(t *testing.T) {
	for _, p := range []*desc.Proc{nil, {}, new(desc.Proc)} {
		each(p, func(what string, zero bool, e api.Errno) {
			if !zero || e != api.EFAULT {
				t.Errorf("%s: zeros: %v, %v", what, zero, e)
			}
		})
		p.CloseAll()
		a, b, c, d := p.Statfs()
		same(t, "Statfs", []int{a, b, c, d}, []int{0, 0, 0, 0})
		if p.FS() != nil || len(p.Fds()) != 0 {
			t.Errorf("FS, Fds: %v, %v", p.FS(), p.Fds())
		}
		same(t, "Umask", []api.Mode{p.Umask(0o777), p.Umask(0o22)}, []api.Mode{0, 0})
		same(t, "Cred", fmt.Sprintf("%+v", p.Cred()), fmt.Sprintf("%+v", api.Cred{}))
	}
}

// busy: a process with descriptors of all kinds, in /a.
func busy(t *testing.T, c api.Cred) *desc.Proc {
	t.Helper()
	fs := store(t, 60, 20)
	r := proc(t, fs, root)
	mkdir(t, r, "/a", "/a/b")
	good(t, "Chmod", r.Chmod("/a", 0o777))
	file(t, r, "/f", "text")
	good(t, "Chmod", r.Chmod("/f", 0o666))
	p := proc(t, fs, in(c, inode(t, fs, "/a")))
	open(t, p, "/f", rw)
	open(t, p, "/a", rd)
	tape(t, p, "text")
	pipe(t, p)
	open(t, p, "/f", wr|api.Append)
	return p
}

// R1, R2: whatever a call is given, it ends; beside an error there is nothing, and it has changed nothing.
func TestAnyArguments(t *testing.T) {
	for _, c := range []api.Cred{root, ann, bob, {Uid: math.MaxInt, Gid: math.MaxInt, Groups: []int{math.MaxInt, 0}, Umask: 0o777}} {
		p := busy(t, c)
		was := state(p)
		each(p, func(what string, zero bool, e api.Errno) {
			if e != api.OK && !zero {
				t.Errorf("%s by %v: something beside %v", what, c, e)
			}
			now := state(p)
			if e != api.OK && now != was {
				t.Errorf("%s by %v: %v, but something has changed", what, c, e)
			}
			was = now
		})
	}
}

// R2: of two things that are wrong the one that the chapter names first.
func TestTwoThingsWrong(t *testing.T) {
	p := busy(t, ann)
	const file, dir, tp, r, w, more, closed = 0, 1, 2, 3, 4, 5, 6
	good(t, "Dup", p.Close(dup(t, p, file)))
	read := func(fd, n int) func() api.Errno { return func() api.Errno { _, e := p.Read(fd, n); return e } }
	seek := func(fd, off, whence int) func() api.Errno {
		return func() api.Errno { _, e := p.Seek(fd, off, whence); return e }
	}
	for _, v := range []struct {
		what string
		want api.Errno
		call func() api.Errno
	}{
		{"Read: not open, and n", api.EBADF, read(closed, -1)},
		{"Read: not to be read, and n", api.EBADF, read(more, -1)},
		{"Read: the other end, and n", api.EBADF, read(w, -1)},
		{"Read: a directory, and n", api.EISDIR, read(dir, -1)},
		{"Read: n, and an empty pipe", api.EINVAL, read(r, -1)},
		{"Seek: not open, and all else", api.EBADF, seek(closed, -1, 7)},
		{"Seek: a pipe, and whence", api.ESPIPE, seek(r, -1, 7)},
		{"Seek: a tape, and off", api.ESPIPE, seek(tp, -1, 0)},
		{"Ftruncate: not open, and the size", api.EBADF, func() api.Errno { return p.Ftruncate(closed, -1) }},
		{"Ftruncate: a directory, too large", api.EINVAL, func() api.Errno { return p.Ftruncate(dir, 1<<40) }},
		{"Taped: not open, no tape", api.EBADF, func() api.Errno { _, e := p.Taped(closed); return e }},
		{"Readdir: not open, no directory", api.EBADF, func() api.Errno { _, _, e := p.Readdir(16); return e }},
		{"Dup2: fd and to", api.EBADF, func() api.Errno { _, e := p.Dup2(closed, -1); return e }},
		{"Open: flags, and the path", api.EINVAL, func() api.Errno { _, e := p.Open("/no/no", 8, 0); return e }},
		{"Open: more than one flag, and the path", api.EINVAL, func() api.Errno { _, e := p.Open("", 256|rd, 0); return e }},
		{"Access: how, and the path", api.EINVAL, func() api.Errno { return p.Access("/no", 8) }},
		{"Chdir: no directory, not searched", api.ENOTDIR, func() api.Errno { return p.Chdir("/f") }},
	} {
		refused(t, v.what, p, v.want, v.call)
	}
	good(t, "Close", p.Close(r))
	noPut(t, p, w, count(300), api.EPIPE) // too much for it, and nobody reads
	noPut(t, p, closed, count(300), api.EBADF)
	for len(p.Fds()) < api.OpenMax {
		dup(t, p, file)
	}
	refused(t, "Open: flags, and too many", p, api.EINVAL, func() api.Errno { _, e := p.Open("/f", 0, 0); return e })
	refused(t, "Open: too many, and the path", p, api.EMFILE, func() api.Errno { _, e := p.Open("/no", rd, 0); return e })
	refused(t, "Dup: not open, and too many", p, api.EBADF, func() api.Errno { _, e := p.Dup(-1); return e })
}

// R1: a file that another one let go too often is in use no more, and the calls say so.
func TestFileThatWasTakenAway(t *testing.T) {
	p := busy(t, root)
	ino := inode(t, p.FS(), "/f")
	good(t, "Unlink", p.Unlink("/f"))
	good(t, "Release", p.FS().Release(ino))
	good(t, "Release", p.FS().Release(ino))
	for _, fd := range []int{0, 5} {
		noPut(t, p, fd, "x", api.ENOENT)
		noSeek(t, p, fd, 0, api.SeekEnd, api.ENOENT)
		seeks(t, p, fd, 2, api.SeekSet, 2)
		is(t, "Ftruncate", p.Ftruncate(fd, 2), api.ENOENT)
		st, e := p.Fstat(fd)
		same(t, "Fstat", fmt.Sprint(st, e), fmt.Sprint(api.Stat{}, api.ENOENT))
		x, ok, e := p.Readdir(fd)
		same(t, "Readdir", fmt.Sprint(x, ok, e), fmt.Sprint(api.Entry{}, false, api.ENOENT))
	}
	noGet(t, p, 0, 5, api.ENOENT)
	is(t, "Close", p.Close(0), api.OK)
	p.CloseAll()
	fds(t, p)
}

// spoil: all that belongs to a list, its spare room too.
func spoil[T any](l []T, with T) {
	l = l[:cap(l)]
	for i := range l {
		l[i] = with
	}
}

// R3: answers are new memory, their spare room too, and stay as they were.
func TestAnswersAreNew(t *testing.T) {
	p := busy(t, bob)
	put(t, p, 4, "in the pipe")
	put(t, p, 0, count(200))
	was := state(p)
	for range 2 {
		b, _ := p.Taped(2)
		spoil(b, 0xee)
		spoil(p.Fds(), 9)
		spoil(p.Cred().Groups, 0)
		same(t, "answers changed", state(p), was)
	}
	seeks(t, p, 0, 0, api.SeekSet, 0)
	piped, _ := p.Read(3, 4)
	taped, _ := p.Read(2, 2)
	bytes, _ := p.Read(0, 100)
	all, _ := p.Taped(2)
	groups := p.Cred().Groups
	kept := fmt.Sprint(piped, taped, bytes, all, groups)
	was = state(p)
	for _, b := range [][]byte{piped, taped, bytes, all} {
		l := slices.Clone(b)
		spoil(b, 0xee)
		copy(b, l)
	}
	same(t, "answers changed", state(p), was)
	put(t, p, 4, " and more")
	put(t, p, 2, " and more")
	put(t, p, 0, "changed")
	gets(t, p, 3, 99, "he pipe and more")
	gets(t, p, 2, 99, "xt and more")
	same(t, "the process went on", fmt.Sprint(piped, taped, bytes, all, groups), kept)
}

// R3: what is handed in is neither changed nor kept.
func TestArgumentsAreLeft(t *testing.T) {
	groups := []int{81, 82, 83, 84}
	c := api.Cred{Uid: 8, Gid: 80, Groups: groups[:2]}
	p := busy(t, c)
	same(t, "the groups", groups, []int{81, 82, 83, 84})
	r := proc(t, p.FS(), root)
	mkdir(t, r, "/g")
	good(t, "Chown", r.Chown("/g", 0, 82, true))
	good(t, "Chmod", r.Chmod("/g", 0o070))
	spoil(groups, 5)
	same(t, "Cred", p.Cred().Groups, []int{81, 82})
	is(t, "Mkdir by a group that was handed in", p.Mkdir("/g/x", 0o755), api.OK)

	for _, fd := range []int{0, 4, 2} { // a file, a pipe, a tape
		all := []byte("..text..")
		n, e := p.Write(fd, all[2:6])
		number(t, "Write", n, e, 4)
		same(t, "the bytes", string(all), "..text..")
		spoil(all, 0)
	}
	holds(t, p, "/f", "text")
	gets(t, p, 3, 9, "text")
	gets(t, p, 2, 9, "texttext")
	all := []byte("..tape..")
	fd, e := p.Tape(all[2:6])
	good(t, "Tape", e)
	put(t, p, fd, "!?")
	same(t, "the bytes", string(all), "..tape..")
	spoil(all, 0)
	gets(t, p, fd, 9, "tape!?")
}

// R4: the same calls, the same answers, whatever other processes do meanwhile.
func TestOneOutcome(t *testing.T) {
	run := func() string {
		p := busy(t, ann)
		d, told := dice(99), ""
		for range 300 {
			told += do(p, d.step())
			told += do(p, d.fileStep())
		}
		return told + state(p)
	}
	want := run()
	var all [8]string
	var done sync.WaitGroup
	for i := range all {
		done.Go(func() { all[i] = run() })
	}
	done.Wait()
	for _, got := range all {
		same(t, "again", got, want)
	}
}

// A refused call leaves no trace, however often it is made.
func TestRefusedLeavesNoTrace(t *testing.T) {
	p, q := busy(t, ann), busy(t, ann)
	next(t, p, 1, ".")
	next(t, q, 1, ".")
	for range 40 {
		p.Open("/no", rd, 0)
		p.Open("/f", 0, 0)
		p.Open("/f", wr|create|api.Excl, 0)
		p.Chdir("/f")
		p.Chdir("/no")
		p.Read(1, 5)
		p.Read(3, 5)
		p.Read(0, -1)
		p.Write(3, []byte("x"))
		p.Seek(1, -1, api.SeekSet)
		p.Seek(0, 1, 9)
		p.Dup2(0, 16)
		p.Dup(-1)
		p.Close(16)
		p.Ftruncate(1, 0)
		p.Readdir(0)
		p.Taped(0)
	}
	same(t, "refused", state(p), state(q))
	d := dice(5)
	for range 200 {
		s := d.step()
		same(t, s.String(), do(p, s), do(q, s))
	}
	same(t, "behind it", state(p), state(q))
}
