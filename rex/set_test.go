package rex

import (
	"testing"

	"gatewicket/api"
)

func TestSetsOfBytes(t *testing.T) {
	for first := range 256 {
		for last := range 256 {
			set := with(api.Set{}, byte(first), byte(last))
			n := 0
			for c := range 256 {
				want := first <= c && c <= last
				if want {
					n++
				}
				if has(set, byte(c)) != want || has(others(set), byte(c)) == want {
					t.Fatalf("the bytes from %d to %d: %d", first, last, c)
				}
			}
			if size(set) != n || size(others(set)) != 256-n {
				t.Fatalf("the bytes from %d to %d: %d of them", first, last, size(set))
			}
		}
	}
}
