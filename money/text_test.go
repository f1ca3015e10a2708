package money_test

import (
	"math"
	"strings"
	"testing"

	"hopper/api"
	"hopper/money"
)

// 22.1: Text and Parse; of 22.5, that texts lead back.

func TestTextsWrittenOut(t *testing.T) {
	for _, x := range []struct {
		a int
		s string
	}{
		{0, "0.00"}, {1, "0.01"}, {-1, "-0.01"}, {9, "0.09"}, {-9, "-0.09"}, {10, "0.10"}, {-10, "-0.10"}, {11, "0.11"}, {50, "0.50"},
		{99, "0.99"}, {-99, "-0.99"}, {100, "1.00"}, {-100, "-1.00"}, {101, "1.01"}, {-101, "-1.01"}, {110, "1.10"}, {199, "1.99"}, {200, "2.00"},
		{999, "9.99"}, {1000, "10.00"}, {-1000, "-10.00"}, {1005, "10.05"}, {10000, "100.00"}, {100000, "1000.00"}, {12345678, "123456.78"},
		{99999999999999, "999999999999.99"}, {100000000000000, "1000000000000.00"}, {-100000000000001, "-1000000000000.01"},
		{great - 100, "9999999999999.00"}, {great - 1, "9999999999999.99"}, {great, "10000000000000.00"},
		{least + 1, "-9999999999999.99"}, {least, "-10000000000000.00"},
	} {
		texted(t, x.a, x.s, api.OK)
		parsed(t, x.s, x.a, api.OK)
	}
}

func TestTextOfNoAmount(t *testing.T) {
	for _, a := range noAmounts() {
		texted(t, a, "", api.ErrMoney)
	}
}

func TestParseOfNoText(t *testing.T) {
	for _, s := range []string{
		"", " ", ".", "-", "+", "0", "1", "-1", "12", "100", "1000", "-100",
		// A point with none, one or three digits behind it.
		"1.", "-1.", "1.5", "0.0", "-0.5", "12.5", "1.000", "0.000", "-0.005", "12.345", "1.0000",
		// No digit ahead of it.
		".50", "-.50", ".00", "..00", "-.5", ".5", ".500",
		// Digits 0 ahead.
		"00.00", "01.00", "-01.00", "00.05", "-00.05", "007.00", "000000000000001.00", "010000000000000.00",
		// Signs.
		"+1.00", "+0.00", "+0.05", "--1.00", "--0.05", "-+1.00", "+-1.00", "1.00-", "1-.00", "1.-00", "1.-5", "1.+5", "0.-1", "-1.-5", "- 1.00", "1.0-", "\u22121.00",
		// Below 0, and nothing.
		"-0.00", "-00.00", "-0",
		// Blanks.
		" 1.00", "1.00 ", "1 .00", "1. 00", "1.0 ", "\t1.00", "1.00\n", "1.00\x00", "\x001.00", "1 000.00", " 0.00",
		// Signs that are no digits.
		"1,00", "1.000.00", "1,000.00", "1_000.00", "1_0.00", "x.00", "1.x0", "1.0x", "0x1.00", "1e2.00", "1.e2", "1.0e", "e.00", "NaN", "inf", "1:00", "1/00", "1.:0", "1./0", "1.0:", "/.00", ":.00", "1.00$", "$1.00",
		"\u0661.00", "\uff11.00", "1\u066b00", "\uff11.\uff10\uff10", "1.\u0660", "\xff.00", "1.\xff\xff", "1\xff00", "1\x0000",
		// Two points, and a point at other places.
		"1..00", "1.0.0", "..", "...", "1.00.", "10.0.", "1.2.34", "0..5", "100.",
		// Beyond the greatest and the least amount.
		"10000000000000.01", "-10000000000000.01", "10000000000001.00", "-10000000000001.00", "10000000000000.99", "20000000000000.00", "99999999999999.99", "-99999999999999.99", "100000000000000.00", "-100000000000000.00",
		"92233720368547758.07", "-92233720368547758.08", "92233720368547758.08", "-92233720368547758.09", "184467440737095516.16", "184467440737095516.17", "-184467440737095516.17",
	} {
		parsed(t, s, 0, api.ErrForm)
	}
}

func TestParseOfLongTexts(t *testing.T) {
	for _, n := range []int{15, 16, 17, 18, 19, 20, 21, 22, 40, 1000, api.MaxText + 1, api.MaxBytes + 1, 1 << 22} {
		for _, s := range []string{
			strings.Repeat("9", n) + ".99", "-" + strings.Repeat("9", n) + ".99", strings.Repeat("0", n) + ".00", strings.Repeat("0", n) + "1.00", "-" + strings.Repeat("0", n) + "1.00",
			"1" + strings.Repeat("0", n) + ".00", "0." + strings.Repeat("0", n), "1." + strings.Repeat("0", n), strings.Repeat("-", n) + "1.00", strings.Repeat(" ", n) + "1.00", "1.00" + strings.Repeat(" ", n),
			strings.Repeat(".", n), strings.Repeat("1", n), strings.Repeat("x", n), strings.Repeat("1.00", n), strings.Repeat("1", n) + "x.00",
		} {
			parsed(t, s, 0, api.ErrForm)
		}
	}
}

// A text with one letter more, less or other than it has is none, or that of another amount.
func TestParseOfChangedTexts(t *testing.T) {
	for _, a := range amounts() {
		text, _ := money.Text(a)
		for at := range len(text) + 1 {
			for c := range 256 {
				letter := string([]byte{byte(c)})
				for _, s := range []string{text[:at] + letter + text[at:], text[:at] + letter + text[min(at+1, len(text)):], text[:at] + text[min(at+1, len(text)):]} {
					want, wantE := modelParse(s)
					parsed(t, s, want, wantE)
				}
			}
		}
	}
}

// All texts of up to six of these letters.
func TestParseOfAllShortTexts(t *testing.T) {
	told := map[api.Errno]int{}
	list := []string{""}
	for range 7 {
		var longer []string
		for _, s := range list {
			want, wantE := modelParse(s)
			parsed(t, s, want, wantE)
			told[wantE]++
			for _, letter := range "-+.015 " {
				longer = append(longer, s+string(letter))
			}
		}
		list = longer
	}
	if told[api.OK] < 50 || told[api.ErrForm] < 50 {
		t.Error(told)
	}
}

// 22.5: texts lead back.
func TestTextsLeadBack(t *testing.T) {
	leadsBack := func(a int) {
		s, e := money.Text(a)
		if e != api.OK {
			t.Errorf("Text of %d: %d", a, e)
		}
		parsed(t, s, a, api.OK)
	}
	for n := range 50000 {
		for _, a := range []int{n, -n, great - n, least + n, n * 20000000007, -n * 19999999999} {
			leadsBack(a)
		}
	}
	for _, a := range amounts() {
		leadsBack(a)
	}
	for n := 1; n <= great; n *= 2 {
		leadsBack(n)
		leadsBack(-n)
		leadsBack(math.MinInt / 10000 / n)
	}
}
