package fault

import (
	"slices"
	"strings"

	"tinsel/api"
)

// The names of calls that have some errors in common.
const (
	moving   = "read write "
	changing = "mkdir rmdir link unlink rename chmod chown utime "
	writing  = changing + "open symlink truncate "
	looking  = "stat lstat readlink access chdir "
	every    = moving + writing + looking + "pipe seek close dup dup2 fstat ftruncate readdir getcwd "
)

// failing: the calls that may fail with that error.
func failing(e api.Errno) string {
	switch e {
	case api.EIO:
		return every
	case api.EINTR:
		return moving + "open"
	case api.ENOSPC:
		return "write open mkdir symlink link rename"
	case api.EMFILE:
		return "open dup pipe"
	case api.EACCES:
		return writing + looking
	case api.EROFS:
		return writing
	case api.EPERM:
		return changing
	case api.EBUSY:
		return "rmdir rename unlink"
	case api.EFBIG:
		return "write truncate ftruncate"
	case api.EMLINK:
		return "link rename mkdir"
	}
	return ""
}

// Legal: may a call of that name fail so?
func Legal(call string, e api.Errno) bool { return among(failing(e), call) }

// among: is it one of these names?
func among(names, call string) bool { return slices.Contains(strings.Fields(names), call) }

// mayBeGiven: is there a call that the choice could be given to?
func mayBeGiven(c api.Choice) bool {
	if c.Errno != api.OK {
		return Legal(c.Call, c.Errno)
	}
	return among(moving, c.Call) && c.Short >= 1
}
