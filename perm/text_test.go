package perm_test

import (
	"strings"
	"testing"

	"tinsel/api"
	"tinsel/perm"
)

// P5.1: the first byte tells the type.
func TestTextOfTypes(t *testing.T) {
	is(t, "a directory", perm.Text(api.TypeDir), "d---------")
	is(t, "a link", perm.Text(api.TypeLink), "l---------")
	is(t, "a pipe", perm.Text(api.TypePipe), "p---------")
	is(t, "a regular file", perm.Text(api.TypeReg), "----------")
	for k := api.Mode(0); k <= api.TypeMask; k += 0o010000 {
		switch k {
		case api.TypeDir, api.TypeLink, api.TypePipe, api.TypeReg:
		default:
			is(t, "another type", perm.Text(k|0o754), "?rwxr-xr--")
		}
	}
}

// P5.1: the nine letters behind it.
func TestTextOfBits(t *testing.T) {
	for _, c := range []struct {
		m    api.Mode
		want string
	}{
		{0o100400, "-r--------"}, {0o100200, "--w-------"}, {0o100100, "---x------"},
		{0o100040, "----r-----"}, {0o100020, "-----w----"}, {0o100010, "------x---"},
		{0o100004, "-------r--"}, {0o100002, "--------w-"}, {0o100001, "---------x"},
		{0o100777, "-rwxrwxrwx"}, {0o100644, "-rw-r--r--"}, {0o040750, "drwxr-x---"}, {0o120777, "lrwxrwxrwx"},
		{0o010600, "prw-------"}, {0o107777, "-rwsrwsrwt"}, {0o107666, "-rwSrwSrwT"},
	} {
		is(t, "Text", perm.Text(c.m), c.want)
		parses(t, c.want, c.m)
	}
}

// P5.1: SetUid, SetGid and Sticky stand in place of the x, or of its lack.
func TestTextOfSpecialBits(t *testing.T) {
	for _, c := range []struct {
		m    api.Mode
		want string
	}{
		{0o104100, "---s------"}, {0o104000, "---S------"}, {0o104755, "-rwsr-xr-x"}, {0o104011, "---S--x--x"},
		{0o102010, "------s---"}, {0o102000, "------S---"}, {0o102644, "-rw-r-Sr--"}, {0o102101, "---x--S--x"},
		{0o101001, "---------t"}, {0o101000, "---------T"}, {0o041777, "drwxrwxrwt"}, {0o041776, "drwxrwxrwT"},
		{0o101110, "---x--x--T"}, {0o011000, "p--------T"}, {0o126000, "l--S--S---"},
	} {
		is(t, "Text", perm.Text(c.m), c.want)
		parses(t, c.want, c.m)
	}
}

// P5.1: bits beyond type and permissions say nothing.
func TestTextLooksAtTypeAndPermMask(t *testing.T) {
	const beyond = ^(api.TypeMask | api.PermMask)
	for _, m := range []api.Mode{0, 0o100644, 0o041777, 0o126421} {
		for bit := api.Mode(1 << 16); bit != 0; bit <<= 1 {
			is(t, "Text", perm.Text(m|bit), perm.Text(m))
			is(t, "Octal", perm.Octal(m|bit), perm.Octal(m))
		}
		is(t, "Text", perm.Text(m|beyond), perm.Text(m))
		is(t, "Octal", perm.Octal(m|beyond), perm.Octal(m))
	}
	is(t, "Text(-1)", perm.Text(-1), "?rwsrwsrwt")
	is(t, "Octal(-1)", perm.Octal(-1), "7777")
	is(t, "Octal of a type alone", perm.Octal(api.TypeMask), "0000")
}

// P5.1: a text has ten bytes.
func TestParseOfOtherLengths(t *testing.T) {
	const good = "-rwsr-xr-T"
	parses(t, good, 0o105754)
	for n := range len(good) {
		noMode(t, good[:n])
		noMode(t, good[n+1:])
	}
	noMode(t, good+"-")
	noMode(t, "-"+good)
	noMode(t, good+"\x00")
	noMode(t, good+"\n")
	noMode(t, " "+good)
	noMode(t, good+good)
	noMode(t, strings.Repeat("-", 100000))
}

// P5.1: the first byte is one of four; ? is none of them.
func TestParseOfFirstBytes(t *testing.T) {
	for c := range 256 {
		s := string([]byte{byte(c)}) + "rw-r--r--"
		switch c {
		case 'd':
			parses(t, s, 0o040644)
		case 'l':
			parses(t, s, 0o120644)
		case 'p':
			parses(t, s, 0o010644)
		case '-':
			parses(t, s, 0o100644)
		default:
			noMode(t, s)
		}
	}
	noMode(t, "?---------")
	noMode(t, "?rwsrwsrwt")
}

// P5.1: each letter has its places: all bytes at all of them.
func TestParseOfLettersAtPlaces(t *testing.T) {
	at := []string{"dlp-", "r-", "w-", "x-sS", "r-", "w-", "x-sS", "r-", "w-", "x-tT"}
	for _, base := range []string{"----------", "drwxrwxrwx", "lrwsrwsrwt", "p--S--S--T"} {
		for i := range base {
			for c := range 256 {
				s := base[:i] + string([]byte{byte(c)}) + base[i+1:]
				if !strings.Contains(at[i], string([]byte{byte(c)})) {
					noMode(t, s)
				} else if m, e := perm.Parse(s); e != api.OK || perm.Text(m) != s {
					t.Errorf("Parse(%q): %#o, %v", s, int(m), e)
				}
			}
		}
	}
	for _, s := range []string{"-xrwxrwxrw", "-wrxrwxrwx", "-rwxrwxrws", "-rwtrwxrwx", "-rwxrwTrwx", "-RWXRWXRWX", "-srwxrwxrw", "-rwxrwxrw1", "-rwxrwxrw ", "-tttttttt-", "-ssssssss-"} {
		noMode(t, s)
	}
}

// P5.1: bytes beyond ASCII are no letters, alone or as parts of one.
func TestParseOfOtherBytes(t *testing.T) {
	for _, s := range []string{"", "\x00", "-rw-r--r-\x00", "-rw-r--r-\xff", "\xe2\x80\x93rw-r--r", "-rw-r--é", "-rw-r--r-é", "-rw-r--é--", "\u2013rw-r--r--", "-\uff52w-r--r--", "-\xf2w-r--r--"} {
		noMode(t, s)
	}
}

// P5.1: four digits, whatever the number.
func TestOctal(t *testing.T) {
	for _, c := range []struct {
		m    api.Mode
		want string
	}{
		{0, "0000"}, {0o7777, "7777"}, {1, "0001"}, {0o10, "0010"}, {0o100, "0100"}, {0o1000, "1000"}, {0o4321, "4321"},
		{0o100644, "0644"}, {0o041777, "1777"}, {api.TypeLink, "0000"}, {1 << 40, "0000"}, {-0o10000, "0000"}, {-1, "7777"}, {-2, "7776"},
	} {
		is(t, "Octal", perm.Octal(c.m), c.want)
	}
}
