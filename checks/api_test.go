package checks

import (
	"errors"
	"testing"

	"tinsel/api"
)

// The errors' numbers and texts, as the document's section 'Words' and POSIX have them.
func TestErrors(t *testing.T) {
	list := []struct {
		e    api.Errno
		n    int
		text string
	}{
		{api.OK, 0, "Success"},
		{api.EPERM, 1, "Operation not permitted"},
		{api.ENOENT, 2, "No such file or directory"},
		{api.EINTR, 4, "Interrupted system call"},
		{api.EIO, 5, "Input/output error"},
		{api.EBADF, 9, "Bad file descriptor"},
		{api.EAGAIN, 11, "Resource temporarily unavailable"},
		{api.EACCES, 13, "Permission denied"},
		{api.EFAULT, 14, "Bad address"},
		{api.EBUSY, 16, "Device or resource busy"},
		{api.EEXIST, 17, "File exists"},
		{api.ENOTDIR, 20, "Not a directory"},
		{api.EISDIR, 21, "Is a directory"},
		{api.EINVAL, 22, "Invalid argument"},
		{api.EMFILE, 24, "Too many open files"},
		{api.EFBIG, 27, "File too large"},
		{api.ENOSPC, 28, "No space left on device"},
		{api.ESPIPE, 29, "Illegal seek"},
		{api.EROFS, 30, "Read-only file system"},
		{api.EMLINK, 31, "Too many links"},
		{api.EPIPE, 32, "Broken pipe"},
		{api.ERANGE, 34, "Numerical result out of range"},
		{api.ENAMETOOLONG, 36, "File name too long"},
		{api.ENOTEMPTY, 39, "Directory not empty"},
		{api.ELOOP, 40, "Too many levels of symbolic links"},
		{api.EUSAGE, 100, "usage"},
		{api.EREGEX, 101, "invalid regular expression"},
		{api.ESCRIPT, 102, "invalid script"},
		{api.ESTEPS, 103, "too many steps"},
	}
	for _, x := range list {
		var asError error = x.e
		if int(x.e) != x.n || api.Text(x.e) != x.text || asError.Error() != x.text {
			t.Errorf("%d: %d, %q, want %q", x.n, int(x.e), api.Text(x.e), x.text)
		}
		if !errors.Is(asError, x.e) {
			t.Errorf("%d is not itself", x.n)
		}
	}
	for _, n := range []api.Errno{-1, 3, 41, 99, 104} {
		if got := api.Text(n); got != "Unknown error" {
			t.Errorf("%d: %q", int(n), got)
		}
	}
}

// The limits and other numbers of the section 'Words', and those of the even layers.
func TestNumbers(t *testing.T) {
	list := []struct {
		name      string
		got, want int
	}{
		{"Block", api.Block, 64},
		{"MaxStore", api.MaxStore, 4096},
		{"Direct", api.Direct, 6},
		{"Ptrs", api.Ptrs, 16},
		{"MaxFile", api.MaxFile, 17792},
		{"MaxFile's blocks", api.MaxFile, (api.Direct + api.Ptrs + api.Ptrs*api.Ptrs) * api.Block},
		{"NameMax", api.NameMax, 27},
		{"PathMax", api.PathMax, 255},
		{"LinkMax", api.LinkMax, 16},
		{"SymMax", api.SymMax, 8},
		{"OpenMax", api.OpenMax, 16},
		{"PipeMax", api.PipeMax, 256},
		{"MaxSteps", api.MaxSteps, 10000},
		{"MaxLine", api.MaxLine, 4096},
		{"MaxNumber", api.MaxNumber, 999999999999999999},
		{"MaxInodes", api.MaxInodes, 4096},
		{"MaxPlan", api.MaxPlan, 1000},
		{"MaxSet", api.MaxSet, 4096},
		{"GlobPath", api.GlobPath, 1},
		{"GlobPeriod", api.GlobPeriod, 2},
		{"GlobPlain", api.GlobPlain, 4},
		{"GlobFold", api.GlobFold, 8},
		{"Read", api.Read, 1},
		{"Write", api.Write, 2},
		{"Append", api.Append, 4},
		{"Create", api.Create, 8},
		{"Excl", api.Excl, 16},
		{"Trunc", api.Trunc, 32},
		{"DirOnly", api.DirOnly, 64},
		{"NoFollow", api.NoFollow, 128},
		{"SeekSet", api.SeekSet, 0},
		{"SeekCur", api.SeekCur, 1},
		{"SeekEnd", api.SeekEnd, 2},
		{"TypeMask", int(api.TypeMask), 0o170000},
		{"TypePipe", int(api.TypePipe), 0o010000},
		{"TypeDir", int(api.TypeDir), 0o040000},
		{"TypeReg", int(api.TypeReg), 0o100000},
		{"TypeLink", int(api.TypeLink), 0o120000},
		{"PermMask", int(api.PermMask), 0o7777},
		{"SetUid", int(api.SetUid), 0o4000},
		{"SetGid", int(api.SetGid), 0o2000},
		{"Sticky", int(api.Sticky), 0o1000},
	}
	for _, x := range list {
		if x.got != x.want {
			t.Errorf("%s: %d, want %d", x.name, x.got, x.want)
		}
	}
}
