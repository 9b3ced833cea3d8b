package clean

import "strings"

// Path: s without steps that lead nowhere or back (P9).
func Path(s string) string {
	pieces := strings.Split(s, "/")
	rooted := strings.HasPrefix(s, "/")
	left := leftOf(pieces, rooted)
	path := strings.Join(left, "/")
	if rooted {
		path = "/" + path
	}
	if len(left) > 0 && endsInside(pieces) {
		path += "/"
	}
	// One piece that is left alone would share the memory of s (P2).
	return strings.Clone(path)
}

func leftOf(pieces []string, rooted bool) []string {
	var left []string
	for _, piece := range pieces {
		last := len(left) - 1
		switch {
		case piece == "" || piece == ".":
		case piece != "..":
			left = append(left, piece)
		case last >= 0 && left[last] != "..":
			left = left[:last]
		case !rooted:
			left = append(left, piece)
		}
	}
	return left
}

// endsInside tells whether the last piece names no thing but the folder that
// the pieces ahead of it lead to.
func endsInside(pieces []string) bool {
	if len(pieces) < 2 {
		return false
	}
	switch pieces[len(pieces)-1] {
	case "", ".", "..":
		return true
	}
	return false
}
