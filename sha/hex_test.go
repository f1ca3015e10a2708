package sha_test

import (
	"strings"
	"testing"

	"hopper/api"
	"hopper/sha"
)

// 24.2: bytes as digits, and digits as bytes.

func TestHexOfNothing(t *testing.T) {
	written(t, "", "", api.OK)
	written(t, mixed(3)[3:], "", api.OK)
}

func TestHexWrittenOut(t *testing.T) {
	written(t, "\x00", "00", api.OK)
	written(t, "\x00\xff", "00ff", api.OK)
	written(t, "\x01\x23\x45\x67\x89\xab\xcd\xef", "0123456789abcdef", api.OK)
	written(t, "\x09\x0a\x0f\x10\x90\xa0\xf0", "090a0f1090a0f0", api.OK)
	written(t, "hopper", "686f70706572", api.OK)
	written(t, "\u00e9", "c3a9", api.OK)
}

func TestHexOfAllBytes(t *testing.T) {
	all := ""
	for _, high := range ownDigits {
		for _, low := range ownDigits {
			all += string(high) + string(low)
		}
	}
	written(t, allBytes(), all, api.OK)
	taken(t, all, allBytes(), api.OK)
	for c := range 256 {
		one := string([]byte{byte(c)})
		written(t, one, all[2*c:2*c+2], api.OK)
		taken(t, all[2*c:2*c+2], one, api.OK)
	}
}

func TestHexOfTheMost(t *testing.T) {
	for _, n := range []int{api.MaxBytes - 1, api.MaxBytes} {
		for _, b := range []string{mixed(n), strings.Repeat("\x00", n), strings.Repeat("\xff", n)} {
			written(t, b, shown(b), api.OK)
			taken(t, shown(b), b, api.OK)
		}
	}
}

func TestHexOfTooMany(t *testing.T) {
	for _, n := range []int{api.MaxBytes + 1, api.MaxBytes + 2, 2 * api.MaxBytes, 1 << 20, 1 << 24} {
		written(t, mixed(n), "", api.ErrLong)
	}
}

func TestUnhexOfNothing(t *testing.T) {
	taken(t, "", "", api.OK)
	taken(t, mixed(3)[3:], "", api.OK)
}

func TestUnhexOfAnOddNumber(t *testing.T) {
	all := shown(mixed(100))
	for n := 1; n < len(all); n += 2 {
		taken(t, all[:n], "", api.ErrForm)
		taken(t, all[:n-1], mixed(100)[:n/2], api.OK)
	}
	for _, c := range ownDigits {
		taken(t, string(c), "", api.ErrForm)
	}
	taken(t, "0g0", "", api.ErrForm)
	taken(t, strings.Repeat("0", 2*api.MaxBytes-1), "", api.ErrForm)
	taken(t, strings.Repeat("0", 2*api.MaxBytes+1), "", api.ErrForm)
}

// Of all 256 bytes just 16 are digits, wherever they stand.
func TestUnhexOfEachSign(t *testing.T) {
	for c := range 256 {
		sign := string([]byte{byte(c)})
		if value := strings.IndexByte(ownDigits, byte(c)); value >= 0 {
			taken(t, sign+"0", string([]byte{byte(value * 16)}), api.OK)
			taken(t, "0"+sign, string([]byte{byte(value)}), api.OK)
			continue
		}
		for _, s := range []string{sign + "0", "0" + sign, sign + sign, sign + "f", "f" + sign} {
			taken(t, s, "", api.ErrForm)
		}
	}
}

// One sign that is no digit, at each place of many.
func TestUnhexOfOneThatIsNone(t *testing.T) {
	good := "0123456789abcdef00ff"
	for at := range len(good) {
		for _, sign := range []string{"A", "B", "C", "D", "E", "F", "G", "/", ":", "@", "`", "g", " ", "\x00", "\xff", "x", "-", "+", "\n"} {
			taken(t, good[:at]+sign+good[at+1:], "", api.ErrForm)
		}
	}
	long := strings.Repeat("a", 2*api.MaxBytes)
	taken(t, "g"+long[1:], "", api.ErrForm)
	taken(t, long[1:]+"g", "", api.ErrForm)
	for _, s := range []string{"FF", "fF", "Ff", "0x00", "00 ff", " 00", "00 ", "-1", "+1", "\uff10\uff10", "00\n", "zz"} {
		taken(t, s, "", api.ErrForm)
	}
}

func TestUnhexOfTheMost(t *testing.T) {
	for _, n := range []int{api.MaxBytes - 1, api.MaxBytes} {
		taken(t, strings.Repeat("0f", n), strings.Repeat("\x0f", n), api.OK)
	}
	for _, n := range []int{api.MaxBytes + 1, api.MaxBytes + 2, 2 * api.MaxBytes, 1 << 22} {
		taken(t, strings.Repeat("0f", n), "", api.ErrForm)
	}
}

// There and back, both ways: Unhex of Hex is the bytes, and what Unhex takes is Hex of what it answers.
func TestThereAndBack(t *testing.T) {
	for _, n := range lengths() {
		b := mixed(n)
		s, e := sha.Hex(b)
		if len(s) != 2*n || e != api.OK {
			t.Error(n, len(s), e)
		}
		taken(t, s, b, api.OK)
		taken(t, strings.ToUpper(s)+"A0", "", api.ErrForm)
	}
}
