package page

import "tinsel/api"

// Bounds: the least and the greatest place that items cover.
func Bounds(l []api.Item) (complex128, complex128) {
	if len(l) == 0 {
		return 0, 0
	}
	least := place(l[0].At)
	most := least
	for _, x := range l {
		at := place(x.At)
		end := at + complex(float64(max(len(x.Text)-1, 0)), 0)
		least = complex(min(real(least), real(at)), min(imag(least), imag(at)))
		most = complex(max(real(most), real(end)), max(imag(most), imag(end)))
	}
	return least, most
}

// Shift: items elsewhere.
func Shift(l []api.Item, by complex128) []api.Item {
	by = place(by)
	return moved(l, func(at complex128) complex128 { return at + by })
}

// Turn: places turned by quarters about 0.
func Turn(l []api.Item, quarters int) []api.Item {
	turn := complex128(1)
	for range quarters & 3 { // of a number below 0, too, these bits are the quarters that are left of whole turns
		turn *= 1i
	}
	return moved(l, func(at complex128) complex128 { return at * turn })
}

// moved: the same texts, each at the place that is told of its own.
func moved(l []api.Item, to func(at complex128) complex128) []api.Item {
	out := make([]api.Item, len(l))
	for i, x := range l {
		out[i] = api.Item{Text: x.Text, At: place(to(place(x.At)))}
	}
	return out
}
