package find_test

import (
	"sync"
	"testing"
)

// R4: what an expression tells does not hang on other calls; it may be tried many times at once.
func TestManyAtOnce(t *testing.T) {
	x := of(t, "-newer a -print , -name *f -exec a {} ; -ls -o ( -size -2k -print0 , -quit )")
	x.Set([]int64{-1})
	want := []string{says(x.Try(file("/d/f"), 9, []int{0})), says(x.Try(file("/d/g"), 9, nil))}
	got := make([]string, 40)
	var group sync.WaitGroup
	for i := range got {
		group.Go(func() {
			other := of(t, "-newer a -mindepth 3 -delete")
			other.Set([]int64{5})
			got[i] = says(x.Try(file("/d/"+split("f g")[i%2]), 9, []int{0}))
		})
	}
	group.Wait()
	for i, s := range got {
		agree(t, "at once", s, want[i%2])
	}
}
