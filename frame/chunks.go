package frame

import (
	"strconv"
	"strings"

	"gatewicket/api"
	"gatewicket/octet"
)

const (
	lineEnd = "\r\n"
	base    = 16 // in which the sizes of chunks are written
	last    = "0" + lineEnd + lineEnd
)

// Chunks: the bytes of the chunks at the front of s, and how many bytes of s
// they took (P27).
func Chunks(s string, most int) (string, int, api.Errno) {
	most = max(most, 0)
	var all strings.Builder
	rest := s
	for {
		piece, behind, e := readChunk(rest, most-all.Len())
		if e != api.OK {
			return "", 0, e
		}
		rest = behind
		if piece == "" {
			return all.String(), len(s) - len(rest), api.OK
		}
		all.WriteString(piece)
	}
}

// readChunk reads the chunk at the front of s: its bytes, and what is behind
// it. The last chunk is read as one of no bytes: it is written as such.
func readChunk(s string, most int) (string, string, api.Errno) {
	size, rest, e := readSize(s)
	switch {
	case e != api.OK:
		return "", "", e
	case size > most:
		return "", "", api.ErrBody
	case size > len(rest):
		return "", "", api.ErrMore
	}
	behind, e := readLineEnd(rest[size:])
	if e != api.OK {
		return "", "", e
	}
	return rest[:size], behind, api.OK
}

// readSize reads the size at the front of s, and the end of its line: the size
// counts only when its line is whole.
func readSize(s string) (int, string, api.Errno) {
	size, digits := longest(s)
	if digits == 0 && s != "" {
		return 0, "", api.ErrForm
	}
	rest, e := readLineEnd(s[digits:])
	if e != api.OK {
		return 0, "", e
	}
	return size, rest, api.OK
}

// longest is the longest number that is written at the front of s, and how
// many digits it has.
func longest(s string) (int, int) {
	size := 0
	for i := range len(s) {
		n, e := octet.Hex(s[:i+1])
		if e != api.OK {
			return size, i
		}
		size = n
	}
	return size, len(s)
}

func readLineEnd(s string) (string, api.Errno) {
	if rest, ok := strings.CutPrefix(s, lineEnd); ok {
		return rest, api.OK
	}
	if strings.HasPrefix(lineEnd, s) {
		return "", api.ErrMore
	}
	return "", api.ErrForm
}

// Chunked: s as chunks of these sizes, and what is left as one more (P28).
func Chunked(s string, sizes []int) string {
	var text strings.Builder
	for _, size := range sizes {
		size = min(max(size, 0), len(s))
		writeChunk(&text, s[:size])
		s = s[size:]
	}
	writeChunk(&text, s)
	text.WriteString(last)
	return text.String()
}

func writeChunk(text *strings.Builder, piece string) {
	// A chunk of no bytes would be read as the last one.
	if piece == "" {
		return
	}
	text.WriteString(strconv.FormatInt(int64(len(piece)), base))
	text.WriteString(lineEnd)
	text.WriteString(piece)
	text.WriteString(lineEnd)
}
