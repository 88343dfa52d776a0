package tree_test

import (
	"fmt"
	"maps"
	"slices"
	"strings"
	"testing"

	"tinsel/api"
	"tinsel/perm"
	"tinsel/tree"
)

// The model: a table of files, of which each knows its own bytes or names
// alone. Links are counted, not kept; paths are followed by recursion over
// texts; blocks are not there, only how many there would be.

type slot struct {
	name string
	ino  int // 0: free
}

type node struct {
	mode     api.Mode
	uid, gid int
	holds    int
	data     []byte
	places   map[int]int // those of data that have a block
	slots    []slot
	a, m, c  int64
}

type model struct {
	blocks, inodes int
	nodes          map[int]*node
	clock          int64
}

func newModel(blocks, inodes int) *model {
	m := &model{blocks: blocks, inodes: inodes, nodes: map[int]*node{}}
	m.nodes[1] = &node{mode: api.TypeDir | 0o755, slots: []slot{{".", 1}, {"..", 1}}}
	return m
}

func (m *model) copy() *model {
	x := &model{blocks: m.blocks, inodes: m.inodes, nodes: map[int]*node{}, clock: m.clock}
	for ino, n := range m.nodes {
		y := *n
		y.data, y.slots, y.places = slices.Clone(n.data), slices.Clone(n.slots), maps.Clone(n.places)
		x.nodes[ino] = &y
	}
	return x
}

func (n *node) kind() api.Mode { return n.mode & api.TypeMask }
func (n *node) dir() bool      { return n.kind() == api.TypeDir }

func (n *node) size() int {
	if n.dir() {
		return 32 * len(n.slots)
	}
	return len(n.data)
}

// cost: the blocks of those places, the indirect ones too.
func cost(places map[int]int) int {
	sum, indirect := len(places), map[int]int{}
	for k := range places {
		switch {
		case k >= 22:
			indirect[22], indirect[100+(k-22)/16] = 1, 1
		case k >= 6:
			indirect[6] = 1
		}
	}
	return sum + len(indirect)
}

// slotPlaces: the places of so many slots.
func slotPlaces(n int) map[int]int {
	p := map[int]int{}
	for k := range n {
		p[k/2] = 1
	}
	return p
}

func (n *node) blocks() int {
	if n.dir() {
		return cost(slotPlaces(len(n.slots)))
	}
	return cost(n.places)
}

// left: blocks that are free.
func (m *model) left() int {
	n := m.blocks
	for _, x := range m.nodes {
		n -= x.blocks()
	}
	return n
}

// links: the entries that lead to it.
func (m *model) links(ino int) int {
	n := 0
	for _, x := range m.nodes {
		for _, s := range x.slots {
			if s.ino == ino {
				n++
			}
		}
	}
	return n
}

// sweep: what nothing leads to and nobody holds is in use no more.
func (m *model) sweep() {
	for ino, n := range m.nodes {
		if n.holds == 0 && m.links(ino) == 0 {
			delete(m.nodes, ino)
		}
	}
}

func (m *model) at(d int, name string) int {
	for _, s := range m.nodes[d].slots {
		if s.ino != 0 && s.name == name {
			return s.ino
		}
	}
	return 0
}

func (m *model) may(c api.Cred, ino, want int) bool {
	n := m.nodes[ino]
	return perm.Access(n.mode, n.uid, n.gid, c, want)
}

// textErr: a path's own errors.
func textErr(p string) api.Errno {
	if p == "" {
		return api.ENOENT
	}
	for _, s := range strings.Split(p, "/") {
		if len(s) > 27 {
			return api.ENAMETOOLONG
		}
	}
	if len(p) > 255 {
		return api.ENAMETOOLONG
	}
	if strings.Contains(p, "\x00") {
		return api.EINVAL
	}
	return api.OK
}

// parts: a path's names, without empty ones.
func parts(p string) []string {
	return slices.DeleteFunc(strings.Split(p, "/"), func(s string) bool { return s == "" })
}

// place is where a path leads in the model.
type place struct {
	d     int
	name  string
	ino   int
	slash bool
}

func (p place) bad() bool { return p.name == "" || p.name == "." || p.name == ".." }

// How a link at the last name is met.
const (
	followed = iota
	notFollowed
	neverFollowed
)

// lead: where a path leads. Only the last name may be missing.
func (m *model) lead(c api.Cred, p string, how int) (place, api.Errno) {
	if e := textErr(p); e != api.OK {
		return place{}, e
	}
	at := 1
	if p[0] != '/' && c.Cwd != 0 {
		at = c.Cwd
		if m.nodes[at] == nil {
			return place{}, api.ENOENT
		}
		if !m.nodes[at].dir() {
			return place{}, api.ENOTDIR
		}
	}
	met := 0
	got, e := m.walk(c, at, p, "", how, strings.HasSuffix(p, "/") && len(parts(p)) > 0, &met)
	if e == api.OK && how != neverFollowed && got.slash && got.ino != 0 && !m.nodes[got.ino].dir() {
		e = api.ENOTDIR
	}
	if e != api.OK {
		return place{}, e
	}
	return got, api.OK
}

// walk: the names of text, and behind them those of more.
func (m *model) walk(c api.Cred, at int, text, more string, how int, slash bool, met *int) (place, api.Errno) {
	l := parts(text + "/" + more)
	if len(l) == 0 {
		return place{ino: at, slash: slash}, api.OK
	}
	if !m.nodes[at].dir() {
		return place{}, api.ENOTDIR
	}
	if !m.may(c, at, 1) {
		return place{}, api.EACCES
	}
	name, rest := l[0], strings.Join(l[1:], "/")
	ino := at
	if name != "." {
		ino = m.at(at, name)
	}
	if ino == 0 && rest != "" {
		return place{}, api.ENOENT
	}
	through := rest != "" || how == followed || how == notFollowed && slash
	if ino != 0 && m.nodes[ino].kind() == api.TypeLink && through {
		*met++
		if *met > 8 {
			return place{}, api.ELOOP
		}
		target := string(m.nodes[ino].data)
		if rest == "" && strings.HasSuffix(target, "/") && len(parts(target)) > 0 {
			slash = true
		}
		if target[0] == '/' {
			at = 1
		}
		return m.walk(c, at, target, rest, how, slash, met)
	}
	if rest != "" {
		return m.walk(c, ino, rest, "", how, slash, met)
	}
	return place{at, name, ino, slash}, api.OK
}

// find: what is there.
func (m *model) find(c api.Cred, p string, follow bool) (int, api.Errno) {
	how := notFollowed
	if follow {
		how = followed
	}
	x, e := m.lead(c, p, how)
	if e == api.OK && x.ino == 0 {
		e = api.ENOENT
	}
	return x.ino, e
}

// touch: a directory's entries were written.
func (m *model) touch(d int) { m.nodes[d].m, m.nodes[d].c = m.clock, m.clock }

// turn: an inode's links, or what else its ctime tells, were changed.
func (m *model) turn(ino int) { m.nodes[ino].c = m.clock }

// needs: what one more entry costs; -1: there can be none.
func (m *model) needs(d int) int {
	l := m.nodes[d].slots
	if slices.ContainsFunc(l, func(s slot) bool { return s.ino == 0 }) {
		return 0
	}
	if len(l) == 556 {
		return -1
	}
	return cost(slotPlaces(len(l)+1)) - cost(slotPlaces(len(l)))
}

// fits: is there room for an entry, with so many blocks taken ahead of it?
func (m *model) fits(d, taken int) bool {
	n := m.needs(d)
	return n >= 0 && n+taken <= m.left()
}

func (m *model) add(d int, name string, ino int) {
	n := m.nodes[d]
	m.touch(d)
	for k := range n.slots {
		if n.slots[k].ino == 0 {
			n.slots[k] = slot{name, ino}
			return
		}
	}
	n.slots = append(n.slots, slot{name, ino})
}

func (m *model) set(d int, name string, ino int) {
	for k, s := range m.nodes[d].slots {
		if s.ino != 0 && s.name == name {
			m.nodes[d].slots[k].ino = ino
			if ino == 0 {
				m.nodes[d].slots[k] = slot{}
			}
			m.touch(d)
			return
		}
	}
}

// number: the lowest one that is not in use; 0: there is none.
func (m *model) number() int {
	for ino := 1; ino <= m.inodes; ino++ {
		if m.nodes[ino] == nil {
			return ino
		}
	}
	return 0
}

// born: a new file for d.
func (m *model) born(c api.Cred, d int, mode api.Mode) (int, *node) {
	n := &node{mode: mode, uid: c.Uid, gid: c.Gid, places: map[int]int{}, a: m.clock, m: m.clock, c: m.clock}
	if m.nodes[d].mode&0o2000 != 0 {
		n.gid = m.nodes[d].gid
		if n.dir() {
			n.mode |= 0o2000
		}
	}
	ino := m.number()
	m.nodes[ino] = n
	return ino, n
}

// open to: the errors of a directory in which a name is to be made.
func (m *model) openTo(c api.Cred, d int) api.Errno {
	if m.links(d) == 0 {
		return api.ENOENT
	}
	if !m.may(c, d, 2) {
		return api.EACCES
	}
	return api.OK
}

func (m *model) mkdir(c api.Cred, p string, mode api.Mode) api.Errno {
	x, e := m.lead(c, p, neverFollowed)
	if e != api.OK {
		return e
	}
	if x.bad() || x.ino != 0 {
		return api.EEXIST
	}
	if e := m.openTo(c, x.d); e != api.OK {
		return e
	}
	if m.links(x.d) == 16 {
		return api.EMLINK
	}
	if m.number() == 0 || m.left() == 0 || !m.fits(x.d, 1) {
		return api.ENOSPC
	}
	ino, n := m.born(c, x.d, api.TypeDir|mode&0o7777&^api.Mode(c.Umask))
	n.slots = []slot{{".", ino}, {"..", x.d}}
	m.add(x.d, x.name, ino)
	return api.OK
}

// stuck: does a sticky directory keep it?
func (m *model) stuck(c api.Cred, x place) bool {
	d, n := m.nodes[x.d], m.nodes[x.ino]
	return d.mode&0o1000 != 0 && c.Uid != 0 && c.Uid != d.uid && c.Uid != n.uid
}

// takeable: the errors of a name that is to go.
func (m *model) takeable(c api.Cred, x place) api.Errno {
	switch {
	case x.ino == 0:
		return api.ENOENT
	case !m.may(c, x.d, 2):
		return api.EACCES
	case m.stuck(c, x):
		return api.EPERM
	}
	return api.OK
}

// bare: a directory without names?
func (m *model) bare(d int) bool {
	for _, s := range m.nodes[d].slots {
		if s.ino != 0 && s.name != "." && s.name != ".." {
			return false
		}
	}
	return true
}

// end: a directory is gone.
func (m *model) end(d, above int) {
	m.nodes[d].slots = nil
	m.touch(d)
	m.turn(above)
}

func (m *model) rmdir(c api.Cred, p string) api.Errno {
	x, e := m.lead(c, p, neverFollowed)
	if e != api.OK {
		return e
	}
	switch x.name {
	case "":
		return api.EBUSY
	case ".":
		return api.EINVAL
	case "..":
		return api.ENOTEMPTY
	}
	if e := m.takeable(c, x); e != api.OK {
		return e
	}
	if !m.nodes[x.ino].dir() {
		return api.ENOTDIR
	}
	if !m.bare(x.ino) {
		return api.ENOTEMPTY
	}
	m.set(x.d, x.name, 0)
	m.end(x.ino, x.d)
	m.sweep()
	return api.OK
}

func (m *model) symlink(c api.Cred, target, p string) api.Errno {
	if e := textErr(target); e != api.OK {
		return e
	}
	x, e := m.lead(c, p, neverFollowed)
	if e != api.OK {
		return e
	}
	if x.bad() || x.ino != 0 {
		return api.EEXIST
	}
	if x.slash {
		return api.ENOENT
	}
	if e := m.openTo(c, x.d); e != api.OK {
		return e
	}
	own := (len(target) + 63) / 64
	if m.number() == 0 || m.left() < own || !m.fits(x.d, own) {
		return api.ENOSPC
	}
	ino, n := m.born(c, x.d, api.TypeLink|0o777)
	n.data = []byte(target)
	for k := range own {
		n.places[k] = 1
	}
	m.add(x.d, x.name, ino)
	return api.OK
}

func (m *model) link(c api.Cred, from, to string) api.Errno {
	ino, e := m.find(c, from, false)
	if e != api.OK {
		return e
	}
	x, e := m.lead(c, to, neverFollowed)
	if e != api.OK {
		return e
	}
	if x.bad() || x.ino != 0 {
		return api.EEXIST
	}
	if x.slash {
		return api.ENOENT
	}
	if e := m.openTo(c, x.d); e != api.OK {
		return e
	}
	switch {
	case m.nodes[ino].dir():
		return api.EPERM
	case m.links(ino) == 16:
		return api.EMLINK
	case !m.fits(x.d, 0):
		return api.ENOSPC
	}
	m.add(x.d, x.name, ino)
	m.turn(ino)
	return api.OK
}

func (m *model) unlink(c api.Cred, p string) api.Errno {
	x, e := m.lead(c, p, neverFollowed)
	if e != api.OK {
		return e
	}
	if x.bad() {
		return api.EISDIR
	}
	if e := m.takeable(c, x); e != api.OK {
		return e
	}
	if m.nodes[x.ino].dir() {
		return api.EISDIR
	}
	if x.slash {
		return api.ENOTDIR
	}
	m.set(x.d, x.name, 0)
	m.turn(x.ino)
	m.sweep()
	return api.OK
}

// inside: is d that directory, or one in it?
func (m *model) inside(d, top int) bool {
	if d == top {
		return true
	}
	for _, s := range m.nodes[top].slots {
		if s.ino != 0 && s.name != "." && s.name != ".." && m.nodes[s.ino].dir() && m.inside(d, s.ino) {
			return true
		}
	}
	return false
}

func (m *model) renameErr(c api.Cred, x, y place) api.Errno {
	if x.bad() || y.bad() {
		return api.EBUSY
	}
	if x.ino == 0 || m.links(y.d) == 0 {
		return api.ENOENT
	}
	isDir, two := m.nodes[x.ino].dir(), x.d != y.d
	switch {
	case (x.slash || y.slash) && !isDir:
		return api.ENOTDIR
	case !m.may(c, x.d, 2) || !m.may(c, y.d, 2) || two && isDir && !m.may(c, x.ino, 2):
		return api.EACCES
	case m.stuck(c, x) || y.ino != 0 && m.stuck(c, y):
		return api.EPERM
	case x.ino == y.ino:
		return api.OK
	case isDir && m.inside(y.d, x.ino):
		return api.EINVAL
	}
	if y.ino != 0 {
		switch over := m.nodes[y.ino].dir(); {
		case over && !isDir:
			return api.EISDIR
		case !over && isDir:
			return api.ENOTDIR
		case over && !m.bare(y.ino):
			return api.ENOTEMPTY
		}
		return api.OK
	}
	if isDir && two && m.links(y.d) == 16 {
		return api.EMLINK
	}
	if !m.fits(y.d, 0) {
		return api.ENOSPC
	}
	return api.OK
}

func (m *model) rename(c api.Cred, from, to string) api.Errno {
	x, e := m.lead(c, from, neverFollowed)
	if e != api.OK {
		return e
	}
	y, e := m.lead(c, to, neverFollowed)
	if e != api.OK {
		return e
	}
	if e := m.renameErr(c, x, y); e != api.OK || x.ino == y.ino {
		return e
	}
	if y.ino == 0 {
		m.add(y.d, y.name, x.ino)
	} else {
		m.set(y.d, y.name, x.ino)
	}
	m.set(x.d, x.name, 0)
	if y.ino != 0 {
		m.turn(y.ino)
		if m.nodes[y.ino].dir() {
			m.end(y.ino, y.d)
		}
	}
	if m.nodes[x.ino].dir() && x.d != y.d {
		m.set(x.ino, "..", y.d)
	}
	m.turn(x.ino)
	m.sweep()
	return api.OK
}

func (m *model) chmod(c api.Cred, p string, mode api.Mode) api.Errno {
	ino, e := m.find(c, p, true)
	if e != api.OK {
		return e
	}
	n := m.nodes[ino]
	if c.Uid != 0 && c.Uid != n.uid {
		return api.EPERM
	}
	mode &= 0o7777
	if c.Uid != 0 && n.kind() == api.TypeReg && n.gid != c.Gid && !slices.Contains(c.Groups, n.gid) {
		mode &= 0o5777
	}
	n.mode = n.kind() | mode
	m.turn(ino)
	return api.OK
}

func (m *model) chown(c api.Cred, p string, uid, gid int, follow bool) api.Errno {
	ino, e := m.find(c, p, follow)
	if e != api.OK {
		return e
	}
	if uid < -1 || gid < -1 {
		return api.EINVAL
	}
	n := m.nodes[ino]
	if c.Uid != 0 {
		his := c.Uid == n.uid && (uid == -1 || uid == c.Uid)
		if !his || gid != -1 && gid != n.gid && gid != c.Gid && !slices.Contains(c.Groups, gid) {
			return api.EPERM
		}
	}
	if uid != -1 {
		n.uid = uid
	}
	if gid != -1 {
		n.gid = gid
	}
	if n.kind() == api.TypeReg && (uid != -1 || gid != -1) {
		n.mode &= 0o171777
	}
	m.turn(ino)
	return api.OK
}

func (m *model) utime(c api.Cred, p string, a, b int64, follow bool) api.Errno {
	ino, e := m.find(c, p, follow)
	if e != api.OK {
		return e
	}
	n := m.nodes[ino]
	if c.Uid != 0 && c.Uid != n.uid {
		return api.EPERM
	}
	n.a, n.m, n.c = a, b, m.clock
	return api.OK
}

// bytesErr: the errors of calls on bytes.
func (m *model) bytesErr(ino int) api.Errno {
	n := m.nodes[ino]
	switch {
	case n == nil:
		return api.ENOENT
	case n.dir():
		return api.EISDIR
	case n.kind() == api.TypeLink:
		return api.EINVAL
	}
	return api.OK
}

func (m *model) truncate(c api.Cred, p string, size int) api.Errno {
	ino, e := m.find(c, p, true)
	if e != api.OK {
		return e
	}
	if m.nodes[ino].dir() {
		return api.EISDIR
	}
	if !m.may(c, ino, 2) {
		return api.EACCES
	}
	return m.resize(ino, size)
}

func (m *model) resize(ino, size int) api.Errno {
	if e := m.bytesErr(ino); e != api.OK {
		return e
	}
	if size < 0 {
		return api.EINVAL
	}
	if size > 17792 {
		return api.EFBIG
	}
	n := m.nodes[ino]
	for len(n.data) < size {
		n.data = append(n.data, 0)
	}
	n.data = n.data[:size:size]
	maps.DeleteFunc(n.places, func(k, _ int) bool { return k*64 >= size })
	m.touch(ino)
	return api.OK
}

func (m *model) writeAt(ino, off int, b []byte) (int, api.Errno) {
	if e := m.bytesErr(ino); e != api.OK {
		return 0, e
	}
	switch {
	case off < 0:
		return 0, api.EINVAL
	case len(b) == 0:
		return 0, api.OK
	case off >= 17792:
		return 0, api.EFBIG
	}
	n, done := m.nodes[ino], 0
	for ; done < len(b) && off+done < 17792; done++ {
		k := (off + done) / 64
		if n.places[k] == 0 {
			with := maps.Clone(n.places)
			with[k] = 1
			if cost(with)-cost(n.places) > m.left() {
				break
			}
			n.places = with
		}
		for len(n.data) <= off+done {
			n.data = append(n.data, 0)
		}
		n.data[off+done] = b[done]
	}
	if done == 0 {
		return 0, api.ENOSPC
	}
	m.touch(ino)
	return done, api.OK
}

func (m *model) readAt(ino, off, n int) ([]byte, api.Errno) {
	if e := m.bytesErr(ino); e != api.OK {
		return nil, e
	}
	if off < 0 || n < 0 {
		return nil, api.EINVAL
	}
	b := m.nodes[ino].data
	b = b[min(off, len(b)):]
	return b[:min(n, len(b))], api.OK
}

func (m *model) open(c api.Cred, p string, flags int, mode api.Mode) (int, api.Errno) {
	on := func(bit int) bool { return flags&bit != 0 }
	switch {
	case flags < 0 || flags > 255, !on(1) && !on(2), (on(32) || on(4)) && !on(2), on(64) && on(8):
		return 0, api.EINVAL
	}
	how := followed
	if on(128) || on(8) && on(16) {
		how = notFollowed
	}
	x, e := m.lead(c, p, how)
	if e != api.OK {
		return 0, e
	}
	if x.ino == 0 && on(8) {
		if x.slash {
			return 0, api.EISDIR
		}
		if e := m.openTo(c, x.d); e != api.OK {
			return 0, e
		}
		if m.number() == 0 || !m.fits(x.d, 0) {
			return 0, api.ENOSPC
		}
		ino, n := m.born(c, x.d, api.TypeReg|mode&0o7777&^api.Mode(c.Umask))
		n.holds = 1
		m.add(x.d, x.name, ino)
		return ino, api.OK
	}
	if x.ino == 0 {
		return 0, api.ENOENT
	}
	n := m.nodes[x.ino]
	switch {
	case on(8) && on(16):
		return 0, api.EEXIST
	case n.kind() == api.TypeLink:
		return 0, api.ELOOP
	case on(64) && !n.dir():
		return 0, api.ENOTDIR
	case n.dir() && (on(2) || on(8)):
		return 0, api.EISDIR
	case on(1) && !m.may(c, x.ino, 4), on(2) && !m.may(c, x.ino, 2):
		return 0, api.EACCES
	}
	if on(32) {
		m.resize(x.ino, 0)
	}
	n.holds++
	return x.ino, api.OK
}

func (m *model) openDir(c api.Cred, p string) (int, api.Errno) {
	ino, e := m.find(c, p, true)
	switch {
	case e != api.OK:
		return 0, e
	case !m.nodes[ino].dir():
		return 0, api.ENOTDIR
	case !m.may(c, ino, 1):
		return 0, api.EACCES
	}
	m.nodes[ino].holds++
	return ino, api.OK
}

func (m *model) hold(ino int) api.Errno {
	if m.nodes[ino] == nil {
		return api.ENOENT
	}
	m.nodes[ino].holds++
	return api.OK
}

func (m *model) release(ino int) api.Errno {
	if m.nodes[ino] == nil {
		return api.ENOENT
	}
	if m.nodes[ino].holds == 0 {
		return api.EINVAL
	}
	m.nodes[ino].holds--
	m.sweep()
	return api.OK
}

func (m *model) readlink(c api.Cred, p string) (string, api.Errno) {
	ino, e := m.find(c, p, false)
	if e != api.OK {
		return "", e
	}
	if m.nodes[ino].kind() != api.TypeLink {
		return "", api.EINVAL
	}
	return string(m.nodes[ino].data), api.OK
}

func (m *model) access(c api.Cred, p string, how int) api.Errno {
	if how < 0 || how > 7 {
		return api.EINVAL
	}
	ino, e := m.find(c, p, true)
	if e == api.OK && !m.may(c, ino, how) {
		e = api.EACCES
	}
	return e
}

// path: the names from the root on, looked for from above.
func (m *model) path(ino int) (string, api.Errno) {
	n := m.nodes[ino]
	switch {
	case n == nil:
		return "", api.ENOENT
	case !n.dir():
		return "", api.ENOTDIR
	case m.links(ino) == 0:
		return "", api.ENOENT
	case ino == 1:
		return "/", api.OK
	}
	return m.below(1, ino), api.OK
}

func (m *model) below(d, ino int) string {
	for _, s := range m.nodes[d].slots {
		if s.ino == 0 || s.name == "." || s.name == ".." || !m.nodes[s.ino].dir() {
			continue
		}
		if s.ino == ino {
			return "/" + s.name
		}
		if p := m.below(s.ino, ino); p != "" {
			return "/" + s.name + p
		}
	}
	return ""
}

func (m *model) stat(ino int) api.Stat {
	n := m.nodes[ino]
	if n == nil {
		return api.Stat{}
	}
	return api.Stat{Ino: ino, Links: m.links(ino), Uid: n.uid, Gid: n.gid, Size: n.size(),
		Blocks: n.blocks(), Mode: n.mode, Atime: n.a, Mtime: n.m, Ctime: n.c}
}

func (m *model) used() []int { return slices.Sorted(maps.Keys(m.nodes)) }

func (m *model) entries(ino int) []api.Entry {
	var l []api.Entry
	for _, s := range m.nodes[ino].slots {
		if s.ino != 0 {
			l = append(l, api.Entry{Name: s.name, Ino: s.ino, Kind: m.nodes[s.ino].kind()})
		}
	}
	return l
}

// alike: is all that is to be seen of a file system as the model has it?
func alike(t *testing.T, what string, f *tree.FS, m *model) {
	t.Helper()
	a, b := sight(f), m.sight()
	if a != b {
		t.Fatalf("%s:\n%swant\n%s", what, a, b)
	}
}

// sight: all but the blocks' numbers, and which of a file's bytes are holes.
func sight(f *tree.FS) string {
	var b strings.Builder
	all, left, inodes, spare := f.Statfs()
	fmt.Fprintln(&b, f.Now(), all, left, inodes, spare, f.Inodes(), len(f.Used()))
	n := held(f)
	for _, ino := range f.Inodes() {
		st, _ := f.Info(ino)
		l, _ := f.Entries(ino)
		content, _ := f.ReadAt(ino, 0, api.MaxFile)
		p, e := f.Path(ino)
		fmt.Fprintf(&b, "%+v %v %q %q %v %d\n", st, l, content, p, int(e), n[ino])
	}
	return b.String()
}

func (m *model) sight() string {
	var b strings.Builder
	fmt.Fprintln(&b, m.clock, m.blocks, m.left(), m.inodes, m.inodes-len(m.nodes), m.used(), m.blocks-m.left())
	for _, ino := range m.used() {
		content, _ := m.readAt(ino, 0, 99999)
		p, e := m.path(ino)
		fmt.Fprintf(&b, "%+v %v %q %q %v %d\n", m.stat(ino), m.entries(ino), content, p, int(e), m.nodes[ino].holds)
	}
	return b.String()
}

// both is a file system and its model, with which the same is done.
type both struct {
	t    *testing.T
	f    *tree.FS
	m    *model
	last string // the last call
}

func twins(t *testing.T, blocks, inodes int) *both {
	return &both{t: t, f: made(t, blocks, inodes), m: newModel(blocks, inodes)}
}

func (x *both) copy() *both { return &both{t: x.t, f: x.f.Copy(), m: x.m.copy()} }

func (x *both) clock(at int64) {
	x.f.Clock(at)
	x.m.clock = at
}

// agree: two answers are told alike.
func (x *both) agree(what string, got, want string) {
	x.t.Helper()
	x.last = what
	if got != want {
		x.t.Fatalf("%s: %s, want %s\nin\n%s", what, brief(got), brief(want), x.m.sight())
	}
}

// told: an answer and an error.
func told(a any, e api.Errno) string { return fmt.Sprintf("%v %d %v", a, int(e), e) }

func (x *both) mkdir(c api.Cred, p string, mode api.Mode) api.Errno {
	x.t.Helper()
	e := x.f.Mkdir(c, p, mode)
	x.agree(fmt.Sprintf("Mkdir(%v, %q, %o)", c, p, mode), told("", e), told("", x.m.mkdir(c, p, mode)))
	return e
}

func (x *both) rmdir(c api.Cred, p string) api.Errno {
	x.t.Helper()
	e := x.f.Rmdir(c, p)
	x.agree(fmt.Sprintf("Rmdir(%v, %q)", c, p), told("", e), told("", x.m.rmdir(c, p)))
	return e
}

func (x *both) symlink(c api.Cred, target, p string) api.Errno {
	x.t.Helper()
	e := x.f.Symlink(c, target, p)
	x.agree(fmt.Sprintf("Symlink(%v, %q, %q)", c, target, p), told("", e), told("", x.m.symlink(c, target, p)))
	return e
}

func (x *both) link(c api.Cred, from, to string) api.Errno {
	x.t.Helper()
	e := x.f.Link(c, from, to)
	x.agree(fmt.Sprintf("Link(%v, %q, %q)", c, from, to), told("", e), told("", x.m.link(c, from, to)))
	return e
}

func (x *both) unlink(c api.Cred, p string) api.Errno {
	x.t.Helper()
	e := x.f.Unlink(c, p)
	x.agree(fmt.Sprintf("Unlink(%v, %q)", c, p), told("", e), told("", x.m.unlink(c, p)))
	return e
}

func (x *both) rename(c api.Cred, from, to string) api.Errno {
	x.t.Helper()
	e := x.f.Rename(c, from, to)
	x.agree(fmt.Sprintf("Rename(%v, %q, %q)", c, from, to), told("", e), told("", x.m.rename(c, from, to)))
	return e
}

func (x *both) chmod(c api.Cred, p string, mode api.Mode) api.Errno {
	x.t.Helper()
	e := x.f.Chmod(c, p, mode)
	x.agree(fmt.Sprintf("Chmod(%v, %q, %o)", c, p, mode), told("", e), told("", x.m.chmod(c, p, mode)))
	return e
}

func (x *both) chown(c api.Cred, p string, uid, gid int, follow bool) api.Errno {
	x.t.Helper()
	e := x.f.Chown(c, p, uid, gid, follow)
	x.agree(fmt.Sprintf("Chown(%v, %q, %d, %d, %v)", c, p, uid, gid, follow), told("", e), told("", x.m.chown(c, p, uid, gid, follow)))
	return e
}

func (x *both) utime(c api.Cred, p string, a, b int64, follow bool) api.Errno {
	x.t.Helper()
	e := x.f.Utime(c, p, a, b, follow)
	x.agree(fmt.Sprintf("Utime(%v, %q, %d, %d, %v)", c, p, a, b, follow), told("", e), told("", x.m.utime(c, p, a, b, follow)))
	return e
}

func (x *both) truncate(c api.Cred, p string, size int) api.Errno {
	x.t.Helper()
	e := x.f.Truncate(c, p, size)
	x.agree(fmt.Sprintf("Truncate(%v, %q, %d)", c, p, size), told("", e), told("", x.m.truncate(c, p, size)))
	return e
}

func (x *both) open(c api.Cred, p string, flags int, mode api.Mode) (int, api.Errno) {
	x.t.Helper()
	ino, e := x.f.Open(c, p, flags, mode)
	x.agree(fmt.Sprintf("Open(%v, %q, %d, %o)", c, p, flags, mode), told(ino, e), told(x.m.open(c, p, flags, mode)))
	return ino, e
}

func (x *both) openDir(c api.Cred, p string) api.Errno {
	x.t.Helper()
	ino, e := x.f.Dir(c, p)
	x.agree(fmt.Sprintf("Dir(%v, %q)", c, p), told(ino, e), told(x.m.openDir(c, p)))
	return e
}

// try: a call on a copy; if it is refused, on this one too, that must stay as it is.
func (x *both) try(call func(*both) api.Errno) {
	x.t.Helper()
	y := x.copy()
	y.clock(y.m.clock + 55)
	if call(y) != api.OK {
		call(x)
		return
	}
	alike(x.t, y.last, y.f, y.m)
}

// look: the calls that change nothing.
func (x *both) look(c api.Cred, p string, how int) {
	x.t.Helper()
	for _, follow := range []bool{true, false} {
		ino, e := x.m.find(c, p, follow)
		if e != api.OK {
			ino = 0
		}
		what := fmt.Sprintf("(%v, %q, %v)", c, p, follow)
		x.agree("Resolve"+what, told(x.f.Resolve(c, p, follow)), told(ino, e))
		x.agree("Stat"+what, told(x.f.Stat(c, p, follow)), told(x.m.stat(ino), e))
	}
	what := fmt.Sprintf("(%v, %q, %d)", c, p, how)
	x.agree("Access"+what, told("", x.f.Access(c, p, how)), told("", x.m.access(c, p, how)))
	x.agree("Readlink"+what, told(x.f.Readlink(c, p)), told(x.m.readlink(c, p)))
}

func (x *both) hold(ino int) {
	x.t.Helper()
	x.agree(fmt.Sprintf("Hold(%d)", ino), told("", x.f.Hold(ino)), told("", x.m.hold(ino)))
}

func (x *both) release(ino int) {
	x.t.Helper()
	x.agree(fmt.Sprintf("Release(%d)", ino), told("", x.f.Release(ino)), told("", x.m.release(ino)))
}

func (x *both) writeAt(ino, off int, text string) {
	x.t.Helper()
	n, e := x.f.WriteAt(ino, off, []byte(text))
	x.agree(fmt.Sprintf("WriteAt(%d, %d, %d bytes)", ino, off, len(text)), told(n, e), told(x.m.writeAt(ino, off, []byte(text))))
}

func (x *both) readAt(ino, off, n int) {
	x.t.Helper()
	x.agree(fmt.Sprintf("ReadAt(%d, %d, %d)", ino, off, n), told(x.f.ReadAt(ino, off, n)), told(x.m.readAt(ino, off, n)))
}

func (x *both) resize(ino, size int) {
	x.t.Helper()
	x.agree(fmt.Sprintf("Resize(%d, %d)", ino, size), told("", x.f.Resize(ino, size)), told("", x.m.resize(ino, size)))
}

func (x *both) path(ino int) {
	x.t.Helper()
	x.agree(fmt.Sprintf("Path(%d)", ino), told(x.f.Path(ino)), told(x.m.path(ino)))
}
