package perm_test

import (
	"fmt"
	"math"
	"testing"

	"tinsel/api"
	"tinsel/perm"
)

// The file of these tests belongs to owner and to group.
const (
	owner = 7
	group = 70
)

// Those who want something of it.
var (
	root     = api.Cred{Uid: 0, Gid: 1}
	theOwner = api.Cred{Uid: owner, Gid: 1}
	ofGroup  = api.Cred{Uid: 1, Gid: group}
	member   = api.Cred{Uid: 1, Gid: 1, Groups: []int{2, group, 3}}
	other    = api.Cred{Uid: 1, Gid: 1, Groups: []int{2, 3, owner}}
)

// What three bits let through of the wants 0 to 7.
var letThrough = [8]string{"ynnnnnnn", "yynnnnnn", "ynynnnnn", "yyyynnnn", "ynnnynnn", "yynnyynn", "ynynynyn", "yyyyyyyy"}

// P5.3: all bits that are wanted stand where they count for somebody, and there alone.
func TestAccess(t *testing.T) {
	for _, kind := range []api.Mode{api.TypeReg, api.TypeDir, api.TypeLink, api.TypePipe, 0, api.TypeMask} {
		for bits := range api.Mode(8) {
			want := letThrough[bits]
			for _, x := range []struct {
				what  string
				c     api.Cred
				shift int
			}{{"the owner", theOwner, 6}, {"the group", ofGroup, 3}, {"a member", member, 3}, {"others", other, 0}} {
				alone := kind | bits<<x.shift
				may(t, x.what, alone, owner, group, x.c, want)
				may(t, x.what+", others' bits too", alone|0o777&^(7<<x.shift), owner, group, x.c, want)
				may(t, x.what+", bits beyond too", alone|0o7000|0o200000, owner, group, x.c, want)
			}
		}
	}
}

// P5.3: the owner may less than others, if the bits say so; and so may the group.
func TestAccessOfTheFirstThatFits(t *testing.T) {
	both := api.Cred{Uid: owner, Gid: group, Groups: []int{group}}
	may(t, "the owner", 0o100077, owner, group, theOwner, letThrough[0])
	may(t, "the owner in the group", 0o100077, owner, group, both, letThrough[0])
	may(t, "the owner in the group", 0o100477, owner, group, both, letThrough[4])
	may(t, "the group", 0o100707, owner, group, ofGroup, letThrough[0])
	may(t, "a member", 0o100707, owner, group, member, letThrough[0])
	may(t, "others", 0o100770, owner, group, other, letThrough[0])
	may(t, "somebody with the owner's number as a group", 0o100700, owner, owner, other, letThrough[0])
	may(t, "somebody with the group's number as a user", 0o100070, owner, group, api.Cred{Uid: group}, letThrough[0])
}

// P5.3: root may all, but execute what nobody may, if it is no directory.
func TestAccessOfRoot(t *testing.T) {
	const (
		all  = "yyyyyyyy"
		noX  = "ynynynyn"
		dirs = api.TypeDir
	)
	for _, uid := range []int{0, owner} {
		for _, kind := range []api.Mode{api.TypeReg, api.TypeLink, api.TypePipe, 0, 0o060000, api.TypeMask} {
			may(t, "without bits", kind, uid, group, root, noX)
			may(t, "without x", kind|0o7666, uid, group, root, noX)
			may(t, "without x, with bits beyond", kind|0o666|0o1000000, uid, group, root, noX)
			for _, x := range []api.Mode{0o100, 0o010, 0o001} {
				may(t, "with an x", kind|x, uid, group, root, all)
			}
		}
		may(t, "a directory", dirs, uid, group, root, all)
		may(t, "a directory without x", dirs|0o666, uid, group, root, all)
		may(t, "a directory with all", dirs|0o777, uid, group, root, all)
	}
	may(t, "group 0 is not root", 0o100000, 0, 0, api.Cred{Uid: 1, Groups: []int{0}}, letThrough[0])
}

// P5.3: of want three bits are looked at.
func TestAccessOfOddWants(t *testing.T) {
	for _, c := range []api.Cred{root, theOwner, ofGroup, member, other} {
		for _, m := range []api.Mode{0o100000, 0o100640, 0o100421, 0o040711, 0o107777, -1, 0} {
			yes(t, "nothing wanted", perm.Access(m, owner, group, c, 0), true)
			for w := range 8 {
				for _, beyond := range []int{8, 16, 0o770, 0o7000, 1 << 40, math.MinInt, -8} {
					yes(t, fmt.Sprintf("Access(%#o, .., %v, %#o)", int(m), c, w|beyond), perm.Access(m, owner, group, c, w|beyond), perm.Access(m, owner, group, c, w))
				}
			}
		}
	}
	yes(t, "8 alone", perm.Access(0o100000, owner, group, other, 8), true)
	yes(t, "-8 alone", perm.Access(0o100000, owner, group, other, -8), true)
	yes(t, "-1", perm.Access(0o100006, owner, group, other, -1), false)
	yes(t, "-1", perm.Access(0o100007, owner, group, other, -1), true)
	yes(t, "-2", perm.Access(0o100006, owner, group, other, -2), true)
}

// P5.3: numbers below 0 and at their ends are numbers like others.
func TestAccessOfOddNumbers(t *testing.T) {
	for _, n := range []int{-1, math.MinInt, math.MaxInt, 1 << 32} {
		may(t, "the owner", 0o100421, n, 1, api.Cred{Uid: n, Gid: 1}, letThrough[4])
		may(t, "the group", 0o100421, 1, n, api.Cred{Uid: 2, Gid: n}, letThrough[2])
		may(t, "a member", 0o100421, 1, n, api.Cred{Uid: 2, Groups: []int{n}}, letThrough[2])
		may(t, "others", 0o100421, n, n, api.Cred{Uid: 2}, letThrough[1])
		may(t, "no root", 0o100421, 0, 0, api.Cred{Uid: n, Gid: n}, letThrough[1])
	}
	may(t, "a mode below 0", -1, owner, group, other, letThrough[7])
	may(t, "a mode below 0", -0o1000, owner, group, theOwner, letThrough[0])
	may(t, "a mode below 0", math.MinInt, owner, group, ofGroup, letThrough[0])
}

// P5.3: Gid, or one of Groups.
func TestMember(t *testing.T) {
	for _, x := range []struct {
		c    api.Cred
		gid  int
		want bool
	}{
		{api.Cred{}, 0, true}, {api.Cred{}, 1, false}, {api.Cred{Gid: 3}, 3, true}, {api.Cred{Gid: 3}, 0, false},
		{api.Cred{Uid: 5, Gid: 3}, 5, false}, {api.Cred{Gid: 3, Umask: 4, Cwd: 5}, 4, false}, {api.Cred{Gid: 3, Umask: 4, Cwd: 5}, 5, false},
		{api.Cred{Gid: 3, Groups: []int{}}, 3, true}, {api.Cred{Gid: 3, Groups: []int{}}, 4, false},
		{api.Cred{Gid: 3, Groups: []int{4, 5, 6}}, 3, true}, {api.Cred{Gid: 3, Groups: []int{4, 5, 6}}, 4, true},
		{api.Cred{Gid: 3, Groups: []int{4, 5, 6}}, 5, true}, {api.Cred{Gid: 3, Groups: []int{4, 5, 6}}, 6, true},
		{api.Cred{Gid: 3, Groups: []int{4, 5, 6}}, 7, false}, {api.Cred{Gid: 3, Groups: []int{4, 5, 6, 7}[:3]}, 7, false},
		{api.Cred{Gid: 3, Groups: []int{4, 4, 3}}, 4, true}, {api.Cred{Uid: 0, Gid: 3}, 9, false},
		{api.Cred{Gid: -1}, -1, true}, {api.Cred{Groups: []int{math.MinInt}}, math.MinInt, true}, {api.Cred{Groups: []int{math.MaxInt}}, math.MinInt, false},
		{api.Cred{Groups: []int{1}}, 1 + 1<<32, false},
	} {
		yes(t, fmt.Sprintf("Member(%v, %d)", x.c, x.gid), perm.Member(x.c, x.gid), x.want)
	}
}

// P5.3: a name in a sticky directory is taken out by root, or by the owner of either.
func TestRemove(t *testing.T) {
	const dirs, files, nobody = 4, 5, 6
	for _, x := range []struct {
		mode api.Mode
		uid  int
		want bool
	}{
		{0o040777, nobody, true}, {0o040000, nobody, true}, {0o046777, nobody, true}, {0o242000, nobody, true},
		{0o041777, nobody, false}, {0o041000, nobody, false}, {0o047777, nobody, false}, {0o101000, nobody, false}, {-1, nobody, false},
		{0o041777, 0, true}, {0o041777, dirs, true}, {0o041777, files, true}, {0o041000, files, true}, {0o041000, dirs, true}, {0o041000, 0, true},
		{0o040777, 0, true}, {0o040777, dirs, true}, {0o040777, files, true}, {0o041777, -1, false}, {0o041777, math.MinInt, false},
	} {
		dir, file := api.Stat{Mode: x.mode, Uid: dirs, Gid: nobody}, api.Stat{Mode: 0o100777, Uid: files, Gid: nobody}
		c := api.Cred{Uid: x.uid, Gid: nobody, Groups: []int{dirs, files}}
		yes(t, fmt.Sprintf("Remove(%#o, by %d)", int(x.mode), x.uid), perm.Remove(dir, file, c), x.want)
		file.Mode = api.TypeReg | api.Sticky
		yes(t, fmt.Sprintf("Remove(%#o, a sticky file, by %d)", int(x.mode), x.uid), perm.Remove(dir, file, c), x.want)
	}
	yes(t, "root's file", perm.Remove(api.Stat{Mode: 0o041777, Uid: 4}, api.Stat{}, api.Cred{Uid: 1}), false)
	yes(t, "all zero", perm.Remove(api.Stat{}, api.Stat{}, api.Cred{}), true)
}
