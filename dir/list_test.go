package dir_test

import (
	"fmt"
	"iter"
	"math"
	"slices"
	"strings"
	"testing"

	"tinsel/api"
	"tinsel/dir"
	"tinsel/inode"
)

// kinds: the types of what is in use; those not in use have none.
var kinds = [...]api.Mode{top: api.TypeDir, file: api.TypeReg, link: api.TypeLink, sub: api.TypeDir, unused: 0}

// at: a slot with an entry of this name and number.
func at(k int, name string, ino int) slot {
	x := api.Entry{Name: name, Ino: ino}
	if ino > 0 && ino < len(kinds) {
		x.Kind = kinds[ino]
	}
	return slot{k, x}
}

// odd: a directory's content that only Write can make.
func odd() string {
	return raw(0, "gone") + // 0: free
		raw(file, "a") + // 1
		raw(unused, "lost") + // 2: not in use
		free() + // 3
		raw(top, strings.Repeat("z", 28)) + // 4: all 28 bytes
		raw(sub, "") + // 5: no name
		raw(link, "a") + // 6: a name that was there
		raw(4294967295, "high") + // 7
		raw(file, "b\x00c") + // 8: bytes behind the name
		raw(0, ".") + // 9: free
		raw(link, "x/y") + // 10
		raw(unused2, "..") + // 11
		raw(sub, ".") + // 12
		raw(0x01000000, "m") + // 13
		free() + // 14
		raw(file, "tail")[:20] // no whole slot
}

// P4.5, P4.6: List, Slots

func TestList(t *testing.T) {
	x := table(t, 20)
	tells(t, "size 0", x, sub)
	tells(t, "dots", x, top, at(0, ".", top), at(1, "..", top))
	is(t, "Add", dir.Add(x, top, "z", file), api.OK)
	is(t, "Add", dir.Add(x, top, "a", link), api.OK)
	is(t, "Add", dir.Add(x, top, "m", sub), api.OK)
	is(t, "Add", dir.Add(x, top, letters(27), top), api.OK)
	tells(t, "in their order", x, top, at(0, ".", top), at(1, "..", top), at(2, "z", file), at(3, "a", link), at(4, "m", sub), at(5, letters(27), top))
	is(t, "Remove", dir.Remove(x, top, "z"), api.OK)
	is(t, "Remove", dir.Remove(x, top, "."), api.OK)
	tells(t, "free ones between", x, top, at(1, "..", top), at(3, "a", link), at(4, "m", sub), at(5, letters(27), top))
	is(t, "Put", dir.Put(x, top, "m", file), api.OK)
	tells(t, "another number", x, top, at(1, "..", top), at(3, "a", link), at(4, "m", file), at(5, letters(27), top))
	x.SetMode(link, 0o7777)
	tells(t, "the type bits alone", x, top, at(1, "..", top), at(3, "a", link), at(4, "m", file), at(5, letters(27), top))
}

func TestListOfAnySlots(t *testing.T) {
	x := filled(t, 20, odd())
	was := picture(x)
	tells(t, "odd", x, sub, at(1, "a", file), at(2, "lost", unused), at(4, strings.Repeat("z", 28), top), at(5, "", sub),
		at(6, "a", link), at(7, "high", 4294967295), at(8, "b", file), at(10, "x/y", link), at(11, "..", unused2), at(12, ".", sub), at(13, "m", 0x01000000))
	unchanged(t, "List", x, was)
}

func TestListOfNoWholeSlot(t *testing.T) {
	for n := range 32 {
		x := filled(t, 9, strings.Repeat("q", n))
		tells(t, fmt.Sprint(n, " bytes"), x, sub)
		spare(t, fmt.Sprint(n, " bytes"), x, sub, 0)
		empty(t, fmt.Sprint(n, " bytes"), x, sub, true)
	}
}

// An inode comes out of use, and into use again as another kind.
func TestKindIsOfNow(t *testing.T) {
	x := table(t, 9)
	is(t, "Add", dir.Add(x, top, "a", file), api.OK)
	is(t, "Links", x.Links(file, 0), api.OK)
	tells(t, "not in use", x, top, at(0, ".", top), at(1, "..", top), slot{2, api.Entry{Name: "a", Ino: file}})
	if ino, e := x.Alloc(api.TypeLink|0o777, 0, 0); ino != file || e != api.OK {
		t.Fatalf("Alloc: %d, %v", ino, e)
	}
	tells(t, "another kind", x, top, at(0, ".", top), at(1, "..", top), slot{2, api.Entry{Name: "a", Ino: file, Kind: api.TypeLink}})
}

// P4.5: Empty

func TestEmpty(t *testing.T) {
	x := table(t, 9)
	empty(t, "size 0", x, sub, true)
	empty(t, "dots", x, top, true)
	for _, name := range goodNames {
		is(t, "Add", dir.Add(x, top, name, file), api.OK)
		empty(t, "with "+brief(name), x, top, false)
		is(t, "Remove", dir.Remove(x, top, name), api.OK)
		empty(t, "without "+brief(name), x, top, true)
	}
	is(t, "Remove", dir.Remove(x, top, "."), api.OK)
	empty(t, "one dot less", x, top, true)
}

func TestEmptyOfAnySlots(t *testing.T) {
	for _, c := range []struct {
		what, text string
		want       bool
	}{
		{"free ones", free() + raw(0, "a") + raw(0, strings.Repeat("a", 28)), true},
		{"dots, the other way round", raw(top, "..") + raw(sub, "."), true},
		{"dots twice", raw(top, ".") + raw(top, ".") + raw(top, "..") + raw(file, ".."), true},
		{"dots of no inode", raw(unused, ".") + raw(4294967295, ".."), true},
		{"dots with bytes behind them", raw(top, ".\x00a") + raw(top, "..\x00."), true},
		{"no name", dots() + raw(file, ""), false},
		{"no inode", dots() + raw(unused, "a"), false},
		{"no inode at all", dots() + raw(4294967295, "a"), false},
		{"the highest byte alone", dots() + raw(0x80000000, "a"), false},
		{"three dots", dots() + raw(file, "..."), false},
		{"ahead of the dots", raw(file, "a") + dots(), false},
		{"behind free ones", dots() + free() + free() + free() + raw(file, "a"), false},
		{"28 dots", dots() + raw(file, strings.Repeat(".", 28)), false},
		{"no whole slot", dots() + raw(file, "a")[:31], true},
	} {
		x := filled(t, 9, c.text)
		empty(t, c.what, x, sub, c.want)
	}
}

// P4.5: Spare

func TestSpare(t *testing.T) {
	x := filled(t, 20, odd())
	spare(t, "odd", x, sub, 4)
	x = table(t, 9)
	spare(t, "size 0", x, sub, 0)
	spare(t, "dots", x, top, 0)
	for n := range 200 {
		is(t, "Truncate", x.Truncate(sub, n), api.OK)
		spare(t, fmt.Sprint("a hole of ", n), x, sub, n/32)
	}
}

// P4.5: Name

func TestName(t *testing.T) {
	x := table(t, 9)
	noName(t, "dots", x, top, top, api.ENOENT)
	is(t, "Add", dir.Add(x, top, "z", file), api.OK)
	is(t, "Add", dir.Add(x, top, "a", file), api.OK)
	is(t, "Add", dir.Add(x, top, letters(27), link), api.OK)
	is(t, "Add", dir.Add(x, top, "me", top), api.OK)
	names(t, "the first one", x, top, file, "z")
	names(t, "the longest", x, top, link, letters(27))
	names(t, "itself, by another name", x, top, top, "me")
	noName(t, "none", x, top, sub, api.ENOENT)
	for _, ino := range noInodes {
		noName(t, "none", x, top, ino, api.ENOENT)
	}
	is(t, "Remove", dir.Remove(x, top, "z"), api.OK)
	names(t, "the second one", x, top, file, "a")
	is(t, "Remove", dir.Remove(x, top, "a"), api.OK)
	noName(t, "none any more", x, top, file, api.ENOENT)
	noName(t, "size 0", x, sub, sub, api.ENOENT)
}

func TestNameInAnySlots(t *testing.T) {
	x := filled(t, 20, odd())
	names(t, "odd", x, sub, file, "a")
	names(t, "not in use", x, sub, unused, "lost")
	names(t, "28 bytes", x, sub, top, strings.Repeat("z", 28))
	names(t, "no name", x, sub, sub, "")
	names(t, "odd", x, sub, link, "a")
	names(t, "the highest number", x, sub, 4294967295, "high")
	names(t, "the highest byte alone", x, sub, 0x01000000, "m")
	noName(t, "dots alone", x, sub, unused2, api.ENOENT)
	for _, ino := range []int{0, -1, 1 << 32, file + 1<<32, math.MaxInt, math.MinInt} {
		noName(t, "none", x, sub, ino, api.ENOENT)
	}
}

// P4.6

func TestSlotsLeftEarly(t *testing.T) {
	x := filled(t, 20, odd())
	seq := dir.Slots(x, sub)
	all := gone(seq)
	for n := range all {
		var l []string
		for k, y := range seq {
			l = append(l, line(k, y))
			if len(l) > n {
				break
			}
		}
		same(t, fmt.Sprint("left behind ", n), l, all[:n+1])
	}
	same(t, "gone through again", gone(seq), all)
	calls := 0
	seq(func(int, api.Entry) bool { calls++; return calls < 3 })
	same(t, "calls behind a false", calls, 3)
}

func TestSlotsNested(t *testing.T) {
	x := filled(t, 20, odd())
	seq := dir.Slots(x, sub)
	all, n := gone(seq), 0
	for k, y := range seq {
		same(t, "within", gone(seq), all)
		same(t, "another one", gone(dir.Slots(x, sub)), all)
		same(t, "outside", line(k, y), all[n])
		n++
	}
	same(t, "outside", n, len(all))
}

// What it tells is as it was when it was asked for.
func TestSlotsAsTheyWere(t *testing.T) {
	x := table(t, 20)
	is(t, "Add", dir.Add(x, top, "a", file), api.OK)
	is(t, "Add", dir.Add(x, top, "b", link), api.OK)
	seq, none := dir.Slots(x, top), dir.Slots(x, sub)
	all := gone(seq)
	change := func(what string) {
		t.Helper()
		same(t, what, gone(seq), all)
		same(t, what, gone(none), []string{})
	}
	is(t, "Remove", dir.Remove(x, top, "a"), api.OK)
	change("removed")
	is(t, "Put", dir.Put(x, top, "b", file), api.OK)
	change("another number")
	is(t, "Init", dir.Init(x, sub, top), api.OK)
	change("made")
	is(t, "Links", x.Links(link, 0), api.OK)
	change("not in use")
	is(t, "Truncate", x.Truncate(top, 0), api.OK)
	change("cut")
	is(t, "Links", x.Links(top, 0), api.OK)
	change("no directory")
	for range seq {
		is(t, "Add", dir.Add(x, sub, "new", sub), api.OK)
		is(t, "Remove", dir.Remove(x, sub, "new"), api.OK)
	}
	change("changed within")
}

// Of one that was none when it was asked for nothing is told, also later.
func TestSlotsOfNone(t *testing.T) {
	x := table(t, 9)
	var none []iter.Seq2[int, api.Entry]
	for _, d := range append([]int{file, link}, noInodes...) {
		none = append(none, dir.Slots(x, d))
	}
	none = append(none, dir.Slots(nil, top), dir.Slots(&inode.Table{}, top))
	if ino, e := x.Alloc(api.TypeDir, 0, 0); ino != unused || e != api.OK {
		t.Fatalf("Alloc: %d, %v", ino, e)
	}
	is(t, "Init", dir.Init(x, unused, top), api.OK)
	for _, seq := range none {
		same(t, "of none", gone(seq), []string{})
	}
}

// P4.1 to P4.6: the chapter's examples.
func TestExamples(t *testing.T) {
	x, _ := inode.New(40, 4)
	d, _ := x.Alloc(api.TypeDir|0o755, 0, 0)
	is(t, "Init", dir.Init(x, d, d), api.OK)
	same(t, "two slots", stat(t, x, d).Size, 64)
	is(t, "Add a", dir.Add(x, d, "a", d), api.OK)
	tells(t, "a", x, d, at(0, ".", d), at(1, "..", d), at(2, "a", d))
	finds(t, "a", x, d, "a", d)
	is(t, "Add a again", dir.Add(x, d, "a", d), api.EEXIST)
	is(t, "Remove a", dir.Remove(x, d, "a"), api.OK)
	spare(t, "a", x, d, 1)
	is(t, "Add b", dir.Add(x, d, "b", d), api.OK)
	tells(t, "b", x, d, at(0, ".", d), at(1, "..", d), at(2, "b", d))
	noFind(t, "x", x, d, "x", api.ENOENT)
	is(t, "Add of nothing", dir.Add(x, d, "", d), api.EINVAL)
	is(t, "Add of 28 bytes", dir.Add(x, d, letters(28), d), api.ENAMETOOLONG)
	l, _ := dir.List(x, d)
	same(t, "List", slices.Collect(func(yield func(string) bool) {
		for _, y := range l {
			if !yield(y.Name) {
				return
			}
		}
	}), []string{".", "..", "b"})
}
