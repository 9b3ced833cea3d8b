package rex

import (
	"math/bits"

	"gatewicket/api"
)

const allBytes = 256

func has(set api.Set, c byte) bool { return set[c/64]>>(c%64)&1 == 1 }

// with is the set with the bytes from first to last, too.
func with(set api.Set, first, last byte) api.Set {
	// Counted by int, as a byte would go round behind 255.
	for c := int(first); c <= int(last); c++ {
		set[c/64] |= 1 << (c % 64)
	}
	return set
}

func union(a, b api.Set) api.Set {
	for i := range a {
		a[i] |= b[i]
	}
	return a
}

func others(set api.Set) api.Set {
	for i := range set {
		set[i] = ^set[i]
	}
	return set
}

func size(set api.Set) int {
	n := 0
	for _, word := range set {
		n += bits.OnesCount64(word)
	}
	return n
}

func only(c byte) api.Set { return with(api.Set{}, c, c) }

func allButNewline() api.Set { return others(only('\n')) }

func digits() api.Set { return with(api.Set{}, '0', '9') }

func wordSigns() api.Set {
	letters := with(with(api.Set{}, 'a', 'z'), 'A', 'Z')
	return union(union(letters, digits()), only('_'))
}

func blanks() api.Set { return with(only(' '), 9, 13) }
