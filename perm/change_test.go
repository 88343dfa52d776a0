package perm_test

import (
	"math"
	"strings"
	"testing"

	"tinsel/api"
	"tinsel/perm"
)

// P5.2: one to four octal digits are the bits, and the type stays.
func TestChangeByDigits(t *testing.T) {
	for _, old := range []api.Mode{0o100000, 0o107777, 0o047777, 0o120644, 0o010421, 0} {
		kind := old & api.TypeMask
		for _, umask := range []int{0, 0o022, 0o777, -1} {
			makes(t, "0", old, umask, kind)
			makes(t, "7", old, umask, kind|7)
			makes(t, "00", old, umask, kind)
			makes(t, "64", old, umask, kind|0o64)
			makes(t, "755", old, umask, kind|0o755)
			makes(t, "0644", old, umask, kind|0o644)
			makes(t, "0000", old, umask, kind)
			makes(t, "0001", old, umask, kind|1)
			makes(t, "4321", old, umask, kind|0o4321)
			makes(t, "7777", old, umask, kind|0o7777)
		}
	}
}

// P5.2: what is nearly such a number.
func TestChangeByOtherDigits(t *testing.T) {
	for _, text := range []string{
		"00000", "00644", "07777", "17777", "10000", "77777777777777777777", strings.Repeat("0", 100000),
		"8", "9", "08", "80", "648", "7779", "0o755", "0x1", "1.", "-1", "+1", "=7", "u=7", "a7", "7a", "7+", "7+r", "644,", ",644", "644,755", "644,u+r", "u+r,644",
		" 644", "644 ", "6 4", "644\n", "644\x00", "\x00", "６４４", "6\xff", "\xb2", "7é",
	} {
		noChange(t, text)
	}
}

// P5.2: letters ahead of an action say whose bits are meant.
func TestChangeWho(t *testing.T) {
	for _, c := range []struct {
		who  string
		want api.Mode
	}{
		{"u", 0o4700}, {"g", 0o2070}, {"o", 0o1007}, {"a", 0o7777}, {"", 0o7777},
		{"ug", 0o6770}, {"gu", 0o6770}, {"uo", 0o5707}, {"go", 0o3077}, {"ugo", 0o7777}, {"au", 0o7777}, {"oa", 0o7777},
		{"uu", 0o4700}, {"ggg", 0o2070}, {"ooo", 0o1007}, {"aa", 0o7777}, {"ugug", 0o6770},
		{strings.Repeat("u", 100000), 0o4700}, {strings.Repeat("og", 50000), 0o3077},
	} {
		makes(t, c.who+"+rwxst", 0o100000, 0, 0o100000|c.want)
		makes(t, c.who+"=rwxst", 0o100000, 0, 0o100000|c.want)
		makes(t, c.who+"-rwxst", 0o107777, 0, 0o107777&^c.want)
		makes(t, c.who+"=", 0o107777, 0, 0o107777&^c.want)
		makes(t, c.who+"=", 0o047777, 0, 0o047777&^c.want)
	}
}

// P5.2: each letter behind an action, for each of those who may stand ahead.
func TestChangeWhat(t *testing.T) {
	for _, c := range []struct {
		what              string
		all, u, g, others api.Mode
	}{
		{"r", 0o444, 0o400, 0o040, 0o004}, {"w", 0o222, 0o200, 0o020, 0o002}, {"x", 0o111, 0o100, 0o010, 0o001},
		{"s", 0o6000, 0o4000, 0o2000, 0}, {"t", 0o1000, 0, 0, 0o1000}, {"X", 0, 0, 0, 0}, {"", 0, 0, 0, 0},
		{"rw", 0o666, 0o600, 0o060, 0o006}, {"rr", 0o444, 0o400, 0o040, 0o004}, {"xwr", 0o777, 0o700, 0o070, 0o007},
		{"st", 0o7000, 0o4000, 0o2000, 0o1000}, {"tsXxwrX", 0o7777, 0o4700, 0o2070, 0o1007}, {"sX", 0o6000, 0o4000, 0o2000, 0},
		{strings.Repeat("wr", 50000), 0o666, 0o600, 0o060, 0o006},
	} {
		for who, bits := range map[string]api.Mode{"": c.all, "a": c.all, "u": c.u, "g": c.g, "o": c.others, "ug": c.u | c.g, "go": c.g | c.others, "ugo": c.all} {
			makes(t, who+"+"+c.what, api.TypeReg, 0, api.TypeReg|bits)
			makes(t, who+"="+c.what, api.TypeReg, 0, api.TypeReg|bits)
			if !strings.Contains(c.what, "X") { // it has x now
				makes(t, who+"-"+c.what, 0o107777, 0, 0o107777&^bits)
			}
		}
	}
}

// P5.2: + and - leave the other bits, = takes away all of WHO; nothing behind it.
func TestChangeActions(t *testing.T) {
	makes(t, "u+", 0o104644, 0, 0o104644)
	makes(t, "u-", 0o104644, 0, 0o104644)
	makes(t, "u=", 0o104644, 0, 0o100044)
	makes(t, "g=", 0o106674, 0, 0o104604)
	makes(t, "o=", 0o101647, 0, 0o100640)
	makes(t, "a=", 0o107777, 0, 0o100000)
	makes(t, "+", 0o107777, 0, 0o107777)
	makes(t, "-", 0o107777, 0, 0o107777)
	makes(t, "=", 0o107777, 0, 0o100000)
	makes(t, "u+x", 0o100640, 0, 0o100740)
	makes(t, "u-w", 0o100640, 0, 0o100440)
	makes(t, "u=x", 0o104640, 0, 0o100140)
	makes(t, "g-r", 0o100604, 0, 0o100604)
	makes(t, "u=rw,go=r", 0o100777, 0, 0o100644)
}

// P5.2: several actions and clauses, one behind the other.
func TestChangeOrder(t *testing.T) {
	makes(t, "u+x-w", 0o100640, 0, 0o100540)
	makes(t, "u-w+w", 0o100640, 0, 0o100640)
	makes(t, "u+w-w", 0o100640, 0, 0o100440)
	makes(t, "u=r+w=x", 0o100777, 0, 0o100177)
	makes(t, "u+r+w+x", 0o100000, 0, 0o100700)
	makes(t, "u++", 0o100640, 0, 0o100640)
	makes(t, "u=-+", 0o104640, 0, 0o100040)
	makes(t, "a=r,u+w", 0o107777, 0, 0o100644)
	makes(t, "u+w,a=r", 0o107777, 0, 0o100444)
	makes(t, "+r,-r", 0o100000, 0, 0o100000)
	makes(t, "-r,+r", 0o100000, 0, 0o100444)
	makes(t, "u+s,+t", 0o100755, 0, 0o105755)
	makes(t, "u+r,g+w,o+x", 0o100000, 0, 0o100421)
	makes(t, "u=,g=,o=,+r", 0o107777, 0o044, 0o100400)
	makes(t, strings.Repeat("u+x,u-x,", 20000)+"u+x-x+x", 0o100000, 0, 0o100100)
}

// P5.2: X asks for a directory, or for what the mode was ahead of all.
func TestChangeMaybeX(t *testing.T) {
	makes(t, "a+X", 0o100644, 0, 0o100644)
	makes(t, "a+X", 0o040644, 0, 0o040755)
	makes(t, "a+X", 0o120644, 0, 0o120644)
	makes(t, "a+X", 0o010644, 0, 0o010644)
	makes(t, "a+X", 0o060644, 0, 0o060644) // a type that is none, with the bit of a directory
	for _, x := range []api.Mode{0o100, 0o010, 0o001} {
		makes(t, "a+X", 0o100644|x, 0, 0o100755)
		makes(t, "o+X", 0o100644|x, 0, 0o100644|x|1)
		makes(t, "a-x,u+X", 0o100644|x, 0, 0o100744)
		makes(t, "a=,a+X", 0o100644|x, 0, 0o100111)
		makes(t, "a=X", 0o100644|x, 0, 0o100111)
	}
	makes(t, "a+X", 0o107666, 0, 0o107666) // SetUid, SetGid and Sticky are none of those
	makes(t, "u+x,a+X", 0o100644, 0, 0o100744)
	makes(t, "u+x+X", 0o100644, 0, 0o100744)
	makes(t, "u+x,g+X,o=rX", 0o100600, 0, 0o100704)
	makes(t, "u-X", 0o100744, 0, 0o100644)
	makes(t, "u-X", 0o040644, 0, 0o040644)
	makes(t, "u=X", 0o040644, 0, 0o040144)
	makes(t, "+X", 0o040644, 0o011, 0o040744)
	makes(t, "a+X", 0o100644|0o1000000, 0, 0o100644)
}

// P5.2: u, g and o behind an action are three bits, as they are now.
func TestChangeByOthersBits(t *testing.T) {
	makes(t, "g=u,o-rwx", 0o100740, 0, 0o100770)
	makes(t, "a=u", 0o107421, 0, 0o100444)
	makes(t, "a=g", 0o107421, 0, 0o100222)
	makes(t, "a=o", 0o107421, 0, 0o100111)
	makes(t, "a+u", 0o100421, 0, 0o100465)
	makes(t, "a-g", 0o100772, 0, 0o100000)
	makes(t, "u=o", 0o100705, 0, 0o100505)
	makes(t, "u=u", 0o104700, 0, 0o100700) // SetUid is none of the three
	makes(t, "g=g", 0o102070, 0, 0o100070)
	makes(t, "o=o", 0o101007, 0, 0o100007)
	makes(t, "u=g,g=o,o=u", 0o100421, 0, 0o100212)
	makes(t, "u-u", 0o107777, 0, 0o107077)
	makes(t, "u=g=o", 0o100421, 0, 0o100121)
	makes(t, "u+g+o", 0o100021, 0, 0o100321)
	makes(t, "g+w,u=g", 0o100400, 0, 0o100220)
	makes(t, "=u", 0o100421, 0o022, 0o100464)
	makes(t, "+u", 0o100700, 0o027, 0o100750)
	makes(t, "o+u-r", 0o100700, 0, 0o100703)
}

// P5.2: s and t are of those whom they belong to.
func TestChangeSpecialBits(t *testing.T) {
	for who, c := range map[string]struct{ s, t api.Mode }{
		"u": {0o4000, 0}, "g": {0o2000, 0}, "o": {0, 0o1000}, "a": {0o6000, 0o1000}, "": {0o6000, 0o1000},
		"ug": {0o6000, 0}, "uo": {0o4000, 0o1000}, "go": {0o2000, 0o1000},
	} {
		makes(t, who+"+s", 0o100644, 0o777, 0o100644|c.s)
		makes(t, who+"+t", 0o100644, 0o777, 0o100644|c.t)
		makes(t, who+"+st", 0o040755, 0o777, 0o040755|c.s|c.t)
		makes(t, who+"-s", 0o107644, 0o777, 0o107644&^c.s)
		makes(t, who+"-t", 0o107644, 0o777, 0o107644&^c.t)
	}
	makes(t, "u=s", 0o100755, 0, 0o104055)
	makes(t, "g=s", 0o100755, 0, 0o102705)
	makes(t, "o=t", 0o100755, 0, 0o101750)
	makes(t, "o=s", 0o101755, 0, 0o100750)
	makes(t, "u=rwx", 0o107000, 0, 0o103700)
}

// P5.2, P5.5: umask counts where no letter says whose bits are meant.
func TestChangeUmask(t *testing.T) {
	makes(t, "+x", 0o100644, 0o022, 0o100755)
	makes(t, "+w", 0o100444, 0o022, 0o100644)
	makes(t, "+rwx", 0o100000, 0o777, 0o100000)
	makes(t, "=rwxst", 0o100000, 0o777, 0o107000)
	makes(t, "-rwx", 0o100777, 0o027, 0o100027)
	makes(t, "=r", 0o107777, 0o027, 0o100467)
	makes(t, "+st", 0o100000, 0o7000, 0o100000)
	makes(t, "+st", 0o100000, 0o4000, 0o103000)
	makes(t, "=", 0o107777, 0o1000, 0o101000)
	makes(t, "+r,u+w", 0o100000, 0o777, 0o100200)
	makes(t, "u+w,+r", 0o100000, 0o040, 0o100604)
	makes(t, "+r+w", 0o100000, 0o026, 0o100640)
	makes(t, "+rwx", 0o100000, 0o10000, 0o100777)
	makes(t, "+rwx", 0o100000, math.MaxInt&^0o7777, 0o100777)
	makes(t, "+rwx", 0o100000, math.MinInt, 0o100777)
	makes(t, "+rwxst", 0o100000, -1, 0o100000)
	makes(t, "=", 0o107777, -1, 0o107777)
	makes(t, "+rwx", 0o100000, -0o1000, 0o100777) // the bits of such a number below 0777 are noughts
	makes(t, "+rwx", 0o100000, -0o777, 0o100776)
	makes(t, "+rwx", 0o100000, math.MaxInt, 0o100000)
	for umask := range 0o10000 {
		makes(t, "=", 0o107777, umask, 0o100000|api.Mode(umask))
		makes(t, "=", 0o040000, umask, 0o040000)
		makes(t, "+rwxst", 0o100000, umask, 0o107777&^api.Mode(umask))
		makes(t, "a+rwxst", 0o100000, umask, 0o107777)
		makes(t, "a=", 0o107777, umask, 0o100000)
	}
}

// P5.2: clauses that are none.
func TestChangeByNoClauses(t *testing.T) {
	for _, text := range []string{
		"", ",", ",,", "u", "a", "ugo", "r", "rwx", "x", "X", "s", "t", "ur", "u,", "u,+r", ",u+r", "u+r,", "u+r,,g+r", ",,u+r", "u+r,,", "+,", ",+", "+,,+", "=,",
		"u+rq", "u+q", "q+r", "uq+r", "u+ra", "u+a", "a+a", "u=ar", "ua", "u*r", "u r", "u +r", "u+ r", " u+r", "u+r ", "u+r, g+r", "u+r;g+r", "u+r\n", "u+r\x00", "\x00",
		"u+ug", "u+gu", "u+uu", "u=go", "u=ro", "u=or", "u=Xu", "u=uX", "u=us", "u=tu", "u=rwxo", "u+g,o=gr", "u+g+ug", "ug=ugo", "g=u,o=uu",
		"U+r", "G+r", "O+r", "A+r", "u+R", "u+W", "u+S", "u+T", "u+U", "+1", "u+7", "u+r7", "u1+r", "u^r", "~", "u+rwx,g", "u+rwx,g+rwx,o",
		"ü+r", "u+é", "u\xff+r", "u+\xff", "u+r\x80", "u＋r", "u+\ufffd", "\u202eu+r", "u−r", strings.Repeat("u", 100000), strings.Repeat("u+r,", 20000), strings.Repeat("u+r", 20000) + "!",
	} {
		noChange(t, text)
	}
}

// P5.2: the answer has the type, and nothing beyond it.
func TestChangeKeepsTheType(t *testing.T) {
	for k := api.Mode(0); k <= api.TypeMask; k += 0o010000 {
		for _, beyond := range []api.Mode{0, 0o200000, 1 << 40, -0o200000} {
			makes(t, "u+x", k|0o644|beyond, 0, k|0o744)
			makes(t, "+", k|0o4644|beyond, 0, k|0o4644)
			makes(t, "600", k|0o644|beyond, 0, k|0o600)
		}
	}
	makes(t, "a=", -1, 0, api.TypeMask)
	makes(t, "u-r", -1, 0, api.TypeMask|0o7377)
	makes(t, "u+r", math.MinInt, 0, 0o400)
	makes(t, "17", math.MaxInt, 0, api.TypeMask|0o17)
}

// P5.4: a text of a mode is that mode, and its digits are its bits.
func TestTextAndOctalComeBack(t *testing.T) {
	for m := range api.Mode(0o200000) {
		s := perm.Text(m)
		if s[0] == '?' {
			noMode(t, s)
		} else {
			parses(t, s, m)
		}
		makes(t, perm.Octal(m), api.TypeMask&^m|^m&api.PermMask, 0o777, api.TypeMask&^m|m&api.PermMask)
	}
}

// P5.5: with an a ahead umask says nothing, whatever the clause.
func TestUmaskOfNoWeight(t *testing.T) {
	for _, text := range everyText("ugoa+-=rXst", 4) {
		for _, old := range []api.Mode{0o100421, 0o047640} {
			m, e := perm.Change("a"+text, old, 0)
			for _, umask := range []int{0o022, 0o777, 0o7777, -1} {
				if n, f := perm.Change("a"+text, old, umask); n != m || f != e {
					t.Fatalf("Change(%q, %#o, %#o): %#o, %v, without umask %#o, %v", "a"+text, int(old), umask, int(n), f, int(m), e)
				}
			}
		}
	}
}
