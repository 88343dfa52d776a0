package fault

import (
	"tinsel/api"
	"tinsel/tree"
)

// These calls are the process' own, promoted by the door: nothing counts
// them, and no choice is given to them.

// FS: the file system that it works on.
func (g *Gate) FS() *tree.FS { return g.reach().FS() }

// Cred: who it is, and where.
func (g *Gate) Cred() api.Cred { return g.reach().Cred() }

// Fds: the descriptors that are open.
func (g *Gate) Fds() []int { return g.reach().Fds() }

// Tape: bytes outside the file system.
func (g *Gate) Tape(b []byte) (int, api.Errno) { return g.reach().Tape(b) }

// Taped: all that is on a tape.
func (g *Gate) Taped(fd int) ([]byte, api.Errno) { return g.reach().Taped(fd) }

// CloseAll: no descriptor is open any more.
func (g *Gate) CloseAll() { g.reach().CloseAll() }

// Umask: the bits that are taken away; the former ones.
func (g *Gate) Umask(m api.Mode) api.Mode { return g.reach().Umask(m) }

// Statfs: blocks, free ones, inodes, free ones.
func (g *Gate) Statfs() (int, int, int, int) { return g.reach().Statfs() }
