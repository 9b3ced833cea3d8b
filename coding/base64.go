package coding

import (
	"strings"

	"gatewicket/api"
)

const (
	base64Signs = "ABCDEFGHIJKLMNOPQRSTUVWXYZabcdefghijklmnopqrstuvwxyz0123456789+/"
	base64Fill  = "="
)

// Base64Encode: s in base 64, as RFC 4648 has it (P7).
func Base64Encode(s string) string {
	var b []byte
	for at := 0; at < len(s); at += 3 {
		b = appendFour(b, s[at:min(at+3, len(s))])
	}
	return string(b)
}

// appendFour writes one to three bytes as four signs.
func appendFour(b []byte, s string) []byte {
	bits := 0
	for i := range 3 {
		bits <<= 8
		if i < len(s) {
			bits |= int(s[i])
		}
	}
	for i := range 4 {
		// n bytes need n+1 signs; fillings stand for the rest.
		if i > len(s) {
			b = append(b, base64Fill...)
		} else {
			b = append(b, base64Signs[bits>>(18-6*i)&63])
		}
	}
	return b
}

// Base64Decode: the bytes that s writes in base 64 (P7).
func Base64Decode(s string) (string, api.Errno) {
	if len(s)%4 != 0 {
		return "", api.ErrForm
	}
	// A third filling is left standing, and refused as a sign below.
	signs := strings.TrimSuffix(strings.TrimSuffix(s, base64Fill), base64Fill)
	var b []byte
	bits, have := 0, 0
	for i := range len(signs) {
		n := strings.IndexByte(base64Signs, signs[i])
		if n < 0 {
			return "", api.ErrForm
		}
		bits, have = bits<<6|n, have+6
		if have >= 8 {
			have -= 8
			b = append(b, byte(bits>>have))
			bits &= 1<<have - 1
		}
	}
	// Bits left over would give one text of bytes several writings.
	if bits != 0 {
		return "", api.ErrForm
	}
	return string(b), api.OK
}
