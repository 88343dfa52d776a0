package find_test

import (
	"fmt"
	"testing"

	"tinsel/api"
	"tinsel/perm"
)

// P20.2: -type asks for the Stat's type.
func TestType(t *testing.T) {
	letters := map[string]api.Mode{"f": api.TypeReg, "d": api.TypeDir, "l": api.TypeLink, "p": api.TypePipe}
	for letter, kind := range letters {
		x := of(t, "-type "+letter)
		for m := api.Mode(0); m <= api.TypeMask; m += 0o010000 {
			for _, bits := range []api.Mode{0, 0o644, 0o7777, 0o1000000} {
				for _, visit := range []int{api.VisitFile, api.VisitPre} {
					v := with(api.Stat{Mode: m | bits})
					v.Kind = visit
					if got := x.Try(v, 0, nil).True; got != (m == kind) {
						t.Errorf("-type %s of %o: %v", letter, int(v.Stat.Mode), got)
					}
				}
			}
		}
	}
	for _, bad := range []string{"", "F", "D", "x", "s", "b", "c", "fd", "ff", "f,d", "-", "-f", "1", "(", "-print", "?", "\x00", "f ", "é"} {
		refuse(t, []string{"-type", bad}, []string{"-type", bad, "-print"}, []string{"a", "-true", "-o", "-type", bad})
	}
	refuseAll(t, "-type", "( -type )", "! -type", "-type f d")
}

// P20.2: -perm asks for just these bits, for all of them, or for one of them.
func TestPerm(t *testing.T) {
	texts := map[string]api.Mode{
		"0": 0, "644": 0o644, "0644": 0o644, "7777": 0o7777, "4000": 0o4000, "1": 1, "007": 7, "0000": 0,
		"u=rw,go=r": 0o644, "a=": 0, "=": 0, "+": 0, "+x": 0o111, "u+x": 0o100, "a+X": 0, "u+X": 0, "u=s": 0o4000, "+t": 0o1000, "g=u": 0, "u=rwx,g=u": 0o770, "u+r,u-r": 0, "=rwxst": 0o7777, "o-w": 0, "u+x,a+X": 0o100,
	}
	modes := []api.Mode{0, 1, 7, 0o100, 0o111, 0o600, 0o640, 0o644, 0o645, 0o744, 0o770, 0o4644, 0o4000, 0o1000, 0o2000, 0o777, 0o7777, 0o6777, -1}
	for text, bits := range texts {
		for _, kind := range []api.Mode{0, api.TypeReg, api.TypeDir, api.TypeLink, 0o1000000} {
			for _, m := range modes {
				v := with(api.Stat{Mode: kind | m})
				has := v.Stat.Mode & 0o7777
				holds(t, has == bits, v, 0, "-perm "+text)
				holds(t, has&bits == bits, v, 0, "-perm -"+text)
				holds(t, bits == 0 || has&bits != 0, v, 0, "-perm /"+text)
			}
		}
	}
}

// P20.2: each of the bits with each of them.
func TestPermOfEachBits(t *testing.T) {
	for bits := api.Mode(0); bits < 0o10000; bits += 0o123 {
		text := perm.Octal(bits)
		just, all, one := of(t, "-perm "+text), of(t, "-perm -"+text), of(t, "-perm /"+text)
		for m := api.Mode(0); m < 0o10000; m += 0o57 {
			v := with(api.Stat{Mode: api.TypeReg | m})
			got := fmt.Sprint(just.Try(v, 0, nil).True, all.Try(v, 0, nil).True, one.Try(v, 0, nil).True)
			agree(t, fmt.Sprintf("%04o of %s", int(m), text), got, fmt.Sprint(m == bits, m&bits == bits, m&bits > 0 || bits == 0))
		}
	}
}

// P20.2: with two signs the second one belongs to the mode.
func TestPermOfTwoSigns(t *testing.T) {
	v := with(api.Stat{Mode: api.TypeReg | 0o644})
	holds(t, true, v, 0, "-perm --x", "-perm /-x", "-perm -+r", "-perm /+x -o -perm /+r", "-perm -=r", "-perm --", "-perm /=")
	holds(t, false, v, 0, "-perm -+x", "-perm /+x", "-perm -=x", "-perm /=x", "-perm +r")
}

// P20.2: what is no mode.
func TestNoPerm(t *testing.T) {
	for _, bad := range []string{"", "/", "8", "-8", "/8", "77777", "00644", "-17777", "/00000", "x", "rw", "/r", "/rw", "u", "/u", "u+q", "-u+q", ",", "-,", "u+r,", "/u+r,", "//644", "//", "-/644", "/u=rw/", "644 ", " 644", "6 44", "0x1", "-print", "1.0", "+644", "+1", "u+ug", "\x00", "é"} {
		refuse(t, []string{"-perm", bad}, []string{"-true", "-o", "-perm", bad, "-print"})
	}
	refuseAll(t, "-perm", "( -perm )", "! -perm", "-perm 644 755", "-perm 644 u+r")
}
