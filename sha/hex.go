package sha

import (
	"strings"

	"hopper/api"
)

const digits = "0123456789abcdef"

func Hex(b string) (string, api.Errno) {
	if len(b) > api.MaxBytes {
		return "", api.ErrLong
	}
	out := make([]byte, 0, 2*len(b))
	for i := range len(b) {
		out = append(out, digits[b[i]>>4], digits[b[i]&15])
	}
	return string(out), api.OK
}

func Unhex(s string) (string, api.Errno) {
	if len(s)%2 != 0 || len(s) > 2*api.MaxBytes {
		return "", api.ErrForm
	}
	out := make([]byte, len(s)/2)
	for i := range out {
		high, low := strings.IndexByte(digits, s[2*i]), strings.IndexByte(digits, s[2*i+1])
		if high < 0 || low < 0 {
			return "", api.ErrForm
		}
		out[i] = byte(high<<4 | low)
	}
	return string(out), api.OK
}
