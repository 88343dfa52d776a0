package dir_test

import (
	"fmt"
	"slices"
	"strings"
	"testing"

	"tinsel/api"
	"tinsel/dir"
	"tinsel/inode"
)

// The model: what a call does is told from a directory's text, and done to
// another table by Write alone. Both tables must be alike then.

// parts: the whole slots of a directory's text.
func parts(x *inode.Table, d int) []string {
	b, _ := x.Read(d, 0, api.MaxFile)
	var l []string
	for part := range slices.Chunk(b, 32) {
		if len(part) == 32 {
			l = append(l, string(part))
		}
	}
	return l
}

// isFree: does a slot begin with four bytes 0?
func isFree(s string) bool { return strings.HasPrefix(s, "\x00\x00\x00\x00") }

// nameOf: a slot's.
func nameOf(s string) string {
	name, _, _ := strings.Cut(s[4:]+"\x00", "\x00")
	return name
}

// numberOf: a slot's.
func numberOf(s string) int {
	return int(s[0]) + 256*(int(s[1])+256*(int(s[2])+256*int(s[3])))
}

// called: the first slot that has a name; -1, if none has.
func called(l []string, name string) int {
	return slices.IndexFunc(l, func(s string) bool { return !isFree(s) && nameOf(s) == name })
}

// isDirectory: the first errors of all calls.
func isDirectory(x *inode.Table, d int) api.Errno {
	st, e := x.Stat(d)
	if e == api.OK && st.Mode&api.TypeMask != api.TypeDir {
		return api.ENOTDIR
	}
	return e
}

// isName: and those of a name.
func isName(x *inode.Table, d int, name string) api.Errno {
	switch e := isDirectory(x, d); {
	case e != api.OK:
		return e
	case len(name) == 0, strings.Contains(name, "/"), strings.Contains(name, "\x00"):
		return api.EINVAL
	case len(name) > 27:
		return api.ENAMETOOLONG
	}
	return api.OK
}

// lay: a text is written, or there is no room.
func lay(x *inode.Table, d, k int, text string) api.Errno {
	if k >= 556 {
		return api.ENOSPC
	}
	_, e := x.Write(d, k*32, []byte(text))
	return e
}

func modelInit(x *inode.Table, d, parent int) api.Errno {
	if e := isDirectory(x, d); e != api.OK {
		return e
	}
	st, _ := x.Stat(d)
	switch {
	case !x.Is(parent):
		return api.EINVAL
	case st.Size > 0:
		return api.EEXIST
	}
	return lay(x, d, 0, raw(uint32(d), ".")+raw(uint32(parent), ".."))
}

func modelAdd(x *inode.Table, d int, name string, ino int) api.Errno {
	if e := isName(x, d, name); e != api.OK {
		return e
	}
	l := parts(x, d)
	switch {
	case !x.Is(ino):
		return api.EINVAL
	case called(l, name) >= 0:
		return api.EEXIST
	}
	k := slices.IndexFunc(l, isFree)
	if k < 0 {
		k = len(l)
	}
	return lay(x, d, k, raw(uint32(ino), name))
}

func modelPut(x *inode.Table, d int, name string, ino int) api.Errno {
	if e := isName(x, d, name); e != api.OK {
		return e
	}
	l := parts(x, d)
	k := called(l, name)
	switch {
	case !x.Is(ino):
		return api.EINVAL
	case k < 0:
		return api.ENOENT
	}
	return lay(x, d, k, raw(uint32(ino), "")[:4]+l[k][4:])
}

func modelRemove(x *inode.Table, d int, name string) api.Errno {
	if e := isName(x, d, name); e != api.OK {
		return e
	}
	k := called(parts(x, d), name)
	if k < 0 {
		return api.ENOENT
	}
	return lay(x, d, k, free())
}

// modelTold: what List, Empty, Spare, Name and Slots tell of a directory.
func modelTold(x *inode.Table, d, ino int) string {
	if e := isDirectory(x, d); e != api.OK {
		return fmt.Sprint([]string{}, e, false, e, 0, e, "", e, []string{})
	}
	var entries, slots []string
	spare, bare, first := 0, true, -1
	l := parts(x, d)
	for k, s := range l {
		if isFree(s) {
			spare++
			continue
		}
		st, _ := x.Stat(numberOf(s))
		y := api.Entry{Name: nameOf(s), Ino: numberOf(s), Kind: st.Mode & api.TypeMask}
		entries, slots = append(entries, line(0, y)), append(slots, line(k, y))
		other := y.Name != "." && y.Name != ".."
		bare = bare && !other
		if other && y.Ino == ino && first < 0 {
			first = k
		}
	}
	called, e := "", api.ENOENT
	if first >= 0 {
		called, e = nameOf(l[first]), api.OK
	}
	return fmt.Sprint(entries, api.OK, bare, api.OK, spare, api.OK, called, e, slots)
}

// told: the same by the calls.
func told(x *inode.Table, d, ino int) string {
	l, e := dir.List(x, d)
	var entries []string
	for _, y := range l {
		entries = append(entries, line(0, y))
	}
	bare, f := dir.Empty(x, d)
	n, g := dir.Spare(x, d)
	first, h := dir.Name(x, d, ino)
	return fmt.Sprint(entries, e, bare, f, n, g, first, h, gone(dir.Slots(x, d)))
}

func modelFind(x *inode.Table, d int, name string) (int, api.Errno) {
	if e := isName(x, d, name); e != api.OK {
		return 0, e
	}
	l := parts(x, d)
	k := called(l, name)
	if k < 0 {
		return 0, api.ENOENT
	}
	return numberOf(l[k]), api.OK
}

// dice: the same numbers each time.
type dice uint64

func (d *dice) upTo(n int) int {
	*d = *d*6364136223846793005 + 1442695040888963407
	return int(uint64(*d)>>33) % n
}

// name: mostly one of a few good ones.
func (d *dice) name() string {
	if d.upTo(12) == 0 {
		return anyNames[d.upTo(len(anyNames))]
	}
	return goodNames[d.upTo(len(goodNames))]
}

// number: mostly one that can be in use.
func (d *dice) number(inodes int) int {
	if d.upTo(15) == 0 {
		return anyNumbers[d.upTo(len(anyNumbers))]
	}
	return d.upTo(inodes) + 1
}

// bytes: a slot's, of any kind.
func (d *dice) bytes() string {
	name := d.name()
	s := raw(uint32(d.upTo(9)), name[:min(len(name), 28)])
	switch d.upTo(6) {
	case 0:
		return s[:d.upTo(32)]
	case 1:
		return s[:4] + strings.Repeat("w", 28)
	case 2:
		return s[:20] + "behind"
	}
	return s
}

// step: one call on both tables, with the same answer.
func step(t *testing.T, dice *dice, x, y *inode.Table, inodes int) {
	t.Helper()
	d, name, ino := dice.number(inodes), dice.name(), dice.number(inodes)
	switch dice.upTo(20) {
	case 0:
		is(t, "Init", dir.Init(x, d, ino), modelInit(y, d, ino))
	case 1, 2, 3, 4, 5, 6:
		is(t, "Add", dir.Add(x, d, name, ino), modelAdd(y, d, name, ino))
	case 7, 8:
		is(t, "Put", dir.Put(x, d, name, ino), modelPut(y, d, name, ino))
	case 9, 10, 11:
		is(t, "Remove", dir.Remove(x, d, name), modelRemove(y, d, name))
	case 12:
		at := int64(dice.upTo(100))
		x.Clock(at)
		y.Clock(at)
	case 13:
		mode := []api.Mode{api.TypeDir, api.TypeDir, api.TypeReg, api.TypeLink}[dice.upTo(4)]
		x.Alloc(mode, 0, 0)
		y.Alloc(mode, 0, 0)
	case 14:
		if dice.upTo(4) == 0 {
			x.Links(ino, 0)
			y.Links(ino, 0)
		}
	case 15:
		size := dice.upTo(600)
		x.Truncate(d, size)
		y.Truncate(d, size)
	case 16:
		off, b := dice.upTo(20)*32, []byte(dice.bytes())
		x.Write(d, off, b)
		y.Write(d, off, b)
	default:
		got, e := dir.Find(x, d, name)
		want, f := modelFind(y, d, name)
		same(t, "Find", []any{got, e}, []any{want, f})
		same(t, "told", told(x, d, ino), modelTold(y, d, ino))
	}
}

// P4.1 to P4.8, R4: whatever is called, a table and its model are alike.
func TestModel(t *testing.T) {
	for _, blocks := range []int{1, 3, 6, 9, 20, 60} {
		for seed := range 3 {
			dice := dice(blocks*100 + seed)
			x, e := inode.New(blocks, 7)
			if e != api.OK {
				t.Fatal(e)
			}
			y := x.Copy()
			for range 3 {
				x.Alloc(api.TypeDir, 0, 0)
				y.Alloc(api.TypeDir, 0, 0)
			}
			for k := range 700 {
				step(t, &dice, x, y, 7)
				if a, b := picture(x), picture(y); a != b {
					t.Errorf("step %d: %s, want %s", k, brief(a), brief(b))
				}
				if t.Failed() {
					t.FailNow()
				}
			}
		}
	}
}

// P4.7: every order of adding and removing three names leaves those that are there.
func TestEveryFiveSteps(t *testing.T) {
	of := []string{"a", "b", "ab"}
	for n := range 6 * 6 * 6 * 6 * 6 {
		x := table(t, 3)
		var slots []string // the model: what stands in each slot, "" where none does
		for range 5 {
			name, add := of[n%6%3], n%6 < 3
			n /= 6
			k := slices.Index(slots, name)
			switch {
			case add && k >= 0:
				is(t, "Add", dir.Add(x, top, name, file), api.EEXIST)
			case add:
				is(t, "Add", dir.Add(x, top, name, file), api.OK)
				if k = slices.Index(slots, ""); k < 0 {
					slots = append(slots, name)
				} else {
					slots[k] = name
				}
			case k < 0:
				is(t, "Remove", dir.Remove(x, top, name), api.ENOENT)
			default:
				is(t, "Remove", dir.Remove(x, top, name), api.OK)
				slots[k] = ""
			}
		}
		want := dots()
		for _, name := range slots {
			if name == "" {
				want += free()
			} else {
				want += raw(file, name)
			}
		}
		content(t, "behind five steps", x, top, want)
	}
}
