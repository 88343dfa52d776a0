package walk

import (
	"cmp"

	"tinsel/api"
	"tinsel/fault"
)

// Sum: how many inodes and blocks a tree has, and the first error, beside
// which all that was come to counts.
func Sum(g *fault.Gate, flags int, root string) (int, int, api.Errno) {
	if g.Proc() == nil { // no call made it: its walk tells nothing
		return 0, 0, api.EFAULT
	}
	seen := map[int]struct{}{}
	blocks, first := 0, api.OK
	for v := range All(g, flags&^api.WalkPost, -1, root) {
		first = cmp.Or(first, v.Errno)
		if _, again := seen[v.Stat.Ino]; !again && (v.Kind == api.VisitFile || v.Kind == api.VisitPre) {
			seen[v.Stat.Ino] = struct{}{}
			blocks += v.Stat.Blocks
		}
	}
	return len(seen), blocks, first
}
