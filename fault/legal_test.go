package fault_test

import (
	"math"
	"slices"
	"strings"
	"testing"

	"tinsel/api"
	"tinsel/fault"
)

// lawful: the errors of each call, by the chapter's table.
var lawful = map[string][]api.Errno{
	"open":      {api.EIO, api.EINTR, api.ENOSPC, api.EMFILE, api.EACCES, api.EROFS},
	"pipe":      {api.EIO, api.EMFILE},
	"read":      {api.EIO, api.EINTR},
	"write":     {api.EIO, api.EINTR, api.ENOSPC, api.EFBIG},
	"seek":      {api.EIO},
	"close":     {api.EIO},
	"dup":       {api.EIO, api.EMFILE},
	"dup2":      {api.EIO},
	"fstat":     {api.EIO},
	"ftruncate": {api.EIO, api.EFBIG},
	"readdir":   {api.EIO},
	"chdir":     {api.EIO, api.EACCES},
	"getcwd":    {api.EIO},
	"mkdir":     {api.EIO, api.ENOSPC, api.EACCES, api.EROFS, api.EPERM, api.EMLINK},
	"rmdir":     {api.EIO, api.EACCES, api.EROFS, api.EPERM, api.EBUSY},
	"link":      {api.EIO, api.ENOSPC, api.EACCES, api.EROFS, api.EPERM, api.EMLINK},
	"unlink":    {api.EIO, api.EACCES, api.EROFS, api.EPERM, api.EBUSY},
	"rename":    {api.EIO, api.ENOSPC, api.EACCES, api.EROFS, api.EPERM, api.EBUSY, api.EMLINK},
	"symlink":   {api.EIO, api.ENOSPC, api.EACCES, api.EROFS},
	"readlink":  {api.EIO, api.EACCES},
	"chmod":     {api.EIO, api.EACCES, api.EROFS, api.EPERM},
	"chown":     {api.EIO, api.EACCES, api.EROFS, api.EPERM},
	"utime":     {api.EIO, api.EACCES, api.EROFS, api.EPERM},
	"truncate":  {api.EIO, api.EACCES, api.EROFS, api.EFBIG},
	"stat":      {api.EIO, api.EACCES},
	"lstat":     {api.EIO, api.EACCES},
	"access":    {api.EIO, api.EACCES},
}

// noCalls: texts that are names of no call.
var noCalls = append(slices.Clone(uncounted), "new", "proc", "calls", "count", "given", "legal",
	"Open", "OPEN", "Read", "WRITE", "Dup2", "", " ", "read ", " read", "read write", "open\x00", "stat\n", "ope", "opens", "creat", "mv",
	strings.Repeat("read ", 1000), "\xff", "dup3", "*")

// errnos: all numbers from below 0 to past the last error, and the ends.
func errnos() []api.Errno {
	l := []api.Errno{math.MinInt, math.MinInt32, math.MaxInt32, math.MaxInt, 1 << 32, 1<<32 + 5}
	for e := api.Errno(-110); e <= 300; e++ {
		l = append(l, e)
	}
	return l
}

// P8.1: Legal, of every name and every number.
func TestLegal(t *testing.T) {
	if len(lawful) != len(names) {
		t.Fatalf("%d calls, want %d", len(lawful), len(names))
	}
	for _, e := range errnos() {
		for _, call := range names {
			if got, want := fault.Legal(call, e), slices.Contains(lawful[call], e); got != want {
				t.Errorf("Legal(%s, %d): %v, want %v", call, int(e), got, want)
			}
		}
		for _, call := range noCalls {
			if fault.Legal(call, e) {
				t.Errorf("Legal(%s, %d)", brief(call), int(e))
			}
		}
	}
}

// P8.1, P8.2: an error is given to a call just if it is Legal; else the call
// is the process' own.
func TestErrorsOfEachCall(t *testing.T) {
	for _, call := range names {
		s := working(call)
		want := do(busy(t), s)
		for e := api.Errno(-3); e <= 105; e++ {
			c := fails(call, 1, e)
			g := fault.New(busy(t), c)
			if slices.Contains(lawful[call], e) {
				same(t, call, do(g, s), zeros(call, e))
				given(t, g, c)
			} else {
				same(t, call, do(g, s), want)
				given(t, g)
			}
			counted(t, g, 1, map[string]int{call: 1})
		}
	}
}
