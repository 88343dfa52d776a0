package buf

import (
	"fmt"
	"testing"

	"tinsel/api"
)

// P10.3: a write that answers 0 and OK counts as EIO. No descriptor of this
// program answers so: hence a function that does.
func TestWriteOfNothing(t *testing.T) {
	for at := range 4 {
		calls := 0
		n, e := writeBy([]byte("abcdefgh"), func(b []byte) (int, api.Errno) {
			calls++
			if calls > at {
				return 0, api.OK
			}
			return 2, api.OK
		})
		if got, want := fmt.Sprint(n, int(e), calls), fmt.Sprint(2*at, int(api.EIO), at+1); got != want {
			t.Errorf("nothing at write %d: %s, want %s", at+1, got, want)
		}
	}
}

// P10.3: 0 beside EINTR is no such write, and none is asked for no bytes.
func TestWriteOfNothingElse(t *testing.T) {
	calls := 0
	n, e := writeBy([]byte("abc"), func(b []byte) (int, api.Errno) {
		calls++
		if calls < 5 {
			return 0, api.EINTR
		}
		return len(b), api.OK
	})
	if n != 3 || e != api.OK || calls != 5 {
		t.Errorf("interrupted: %d, %v by %d calls", n, e, calls)
	}
	for _, b := range [][]byte{nil, {}} {
		n, e = writeBy(b, nil)
		if n != 0 || e != api.OK {
			t.Errorf("no bytes: %d, %v", n, e)
		}
	}
}
