package find_test

import (
	"math"
	"testing"

	"tinsel/api"
	"tinsel/find"
)

// P20.3: all that a glance tells, with a space between each two.
func TestGlance(t *testing.T) {
	stat := api.Stat{Ino: 12, Blocks: 3, Mode: api.TypeReg | 0o644, Links: 2, Uid: 7, Gid: 8, Size: 130, Mtime: 86399, Atime: 5, Ctime: 6}
	agree(t, "a file", find.Glance(api.Visit{Kind: api.VisitFile, Path: "/a/b", Depth: 4, Stat: stat}), "12 3 -rw-r--r-- 2 7 8 130 1970-01-01 23:59:59 /a/b")
	agree(t, "an error", find.Glance(api.Visit{Kind: api.VisitErr, Errno: api.EACCES, Path: "x"}), "0 0 ?--------- 0 0 0 0 1970-01-01 00:00:00 x")
	agree(t, "nothing", find.Glance(api.Visit{}), "0 0 ?--------- 0 0 0 0 1970-01-01 00:00:00 ")
	for mode, text := range map[api.Mode]string{
		api.TypeReg: "----------", api.TypeDir | 0o755: "drwxr-xr-x", api.TypeLink | 0o777: "lrwxrwxrwx", api.TypePipe | 0o600: "prw-------",
		api.TypeReg | 0o7777: "-rwsrwsrwt", api.TypeDir | 0o1000: "d--------T", api.TypeReg | 0o6000: "---S--S---", 0o644: "?rw-r--r--", 0o170000: "?---------", -1: "?rwsrwsrwt",
	} {
		agree(t, text, find.Glance(api.Visit{Path: "p", Stat: api.Stat{Mode: mode}}), "0 0 "+text+" 0 0 0 0 1970-01-01 00:00:00 p")
	}
	for _, kind := range kinds {
		v := api.Visit{Kind: kind, Path: "a b", Depth: kind, Stat: stat}
		agree(t, "whatever the kind", find.Glance(v), "12 3 -rw-r--r-- 2 7 8 130 1970-01-01 23:59:59 a b")
	}
}

// P20.3: numbers and times at their ends.
func TestGlanceAtTheEnds(t *testing.T) {
	const most, least = "9223372036854775807", "-9223372036854775808"
	high, low := math.MaxInt, math.MinInt
	agree(t, "the greatest", find.Glance(api.Visit{Stat: api.Stat{Ino: high, Blocks: high, Links: high, Uid: high, Gid: high, Size: high, Mtime: math.MaxInt64}}), most+" "+most+" ?--------- "+most+" "+most+" "+most+" "+most+" ? ")
	agree(t, "the least", find.Glance(api.Visit{Stat: api.Stat{Ino: low, Blocks: low, Links: low, Uid: low, Gid: low, Size: low, Mtime: math.MinInt64}}), least+" "+least+" ?--------- "+least+" "+least+" "+least+" "+least+" ? ")
	for at, text := range map[int64]string{-1: "1969-12-31 23:59:59", 253402300799: "9999-12-31 23:59:59", 253402300800: "?", -62167219200: "0000-01-01 00:00:00", -62167219201: "?", 951782400: "2000-02-29 00:00:00"} {
		agree(t, text, find.Glance(api.Visit{Stat: api.Stat{Mtime: at, Size: -1}}), "0 0 ?--------- 0 0 0 -1 "+text+" ")
	}
}
