package money_test

import (
	"fmt"
	"math/big"
	"math/rand"
	"regexp"
	"slices"
	"strings"
	"testing"

	"hopper/api"
)

// The model is the chapter's words, written out as plainly as may be, with whole numbers of any length.

func bigOf(n int) *big.Int { return big.NewInt(int64(n)) }

func product(a, b int) *big.Int { return new(big.Int).Mul(bigOf(a), bigOf(b)) }

// total adds up whatever there is.
func total(list []int) *big.Int {
	out := new(big.Int)
	for _, n := range list {
		out.Add(out, bigOf(n))
	}
	return out
}

func mayBe(n *big.Int) bool { return n.CmpAbs(bigOf(great)) <= 0 }

func modelAmount(n *big.Int) (int, api.Errno) {
	if !mayBe(n) {
		return 0, api.ErrRange
	}
	return int(n.Int64()), api.OK
}

func modelText(a int) (string, api.Errno) {
	if !mayBe(bigOf(a)) {
		return "", api.ErrMoney
	}
	digits, sign := strings.CutPrefix(fmt.Sprint(a), "-")
	for len(digits) < 3 {
		digits = "0" + digits
	}
	point := len(digits) - 2
	return map[bool]string{true: "-"}[sign] + digits[:point] + "." + digits[point:], api.OK
}

var form = regexp.MustCompile(`^(-?)(0|[1-9][0-9]*)\.([0-9][0-9])$`)

func modelParse(s string) (int, api.Errno) {
	part := form.FindStringSubmatch(s)
	if part == nil {
		return 0, api.ErrForm
	}
	n, _ := new(big.Int).SetString(part[1]+part[2]+part[3], 10)
	if !mayBe(n) || part[1] == "-" && n.Sign() == 0 {
		return 0, api.ErrForm
	}
	return int(n.Int64()), api.OK
}

func modelSum(l []int) (int, api.Errno) {
	for _, a := range l {
		if !mayBe(bigOf(a)) {
			return 0, api.ErrMoney
		}
	}
	return modelAmount(total(l))
}

// nearest is the whole number that is nearest to a quotient, of two as near the one farther from 0.
func nearest(n *big.Int, by int) *big.Int {
	below, rest := new(big.Int).DivMod(n, bigOf(by), new(big.Int))
	above := new(big.Int).Add(below, bigOf(1))
	switch twice := rest.Lsh(rest, 1).Cmp(bigOf(by)); {
	case twice < 0 || twice == 0 && below.CmpAbs(above) > 0:
		return below
	}
	return above
}

func modelPart(a, rate int) (int, api.Errno) {
	if !mayBe(bigOf(a)) {
		return 0, api.ErrMoney
	}
	if rate < 0 || rate > 1000000 {
		return 0, api.ErrRange
	}
	return modelAmount(nearest(product(a, rate), 10000))
}

// modelHighest is the highest amount whose quotient by a rate is not above the greatest amount.
func modelHighest(rate int) int {
	return int(new(big.Int).Div(product(great, 10000), bigOf(rate)).Int64())
}

func modelPrice(a, many int, rates []int) (int, api.Errno) {
	if !mayBe(bigOf(a)) {
		return 0, api.ErrMoney
	}
	if many < 0 || many > 1000000 || slices.ContainsFunc(rates, func(r int) bool { return r < 0 || r > 1000000 }) {
		return 0, api.ErrRange
	}
	price, e := modelAmount(product(a, many))
	for _, rate := range rates {
		part, partE := modelPart(price, rate)
		if e != api.OK || partE != api.OK {
			return 0, api.ErrRange
		}
		price, e = modelSum([]int{price, part})
	}
	return price, e
}

func modelShare(a int, weights []int) ([]int, api.Errno) {
	if !mayBe(bigOf(a)) {
		return nil, api.ErrMoney
	}
	if len(weights) < 1 || len(weights) > 1000 || slices.Min(weights) < 0 || slices.Max(weights) > 1000000 || slices.Max(weights) == 0 {
		return nil, api.ErrRange
	}
	all := total(weights)
	var out []int
	for _, w := range weights {
		out = append(out, int(new(big.Int).Quo(product(a, w), all).Int64()))
	}
	// Round and round, for it is not said that one round is enough.
	for i := 0; total(out).Cmp(bigOf(a)) != 0; i = (i + 1) % len(out) {
		if weights[i] > 0 {
			out[i] += bigOf(a).Sign()
		}
	}
	return out, api.OK
}

// Drawn inputs.

func pick(r *rand.Rand, list []int) int { return list[r.Intn(len(list))] }

// drawAmount answers an amount for the most part.
func drawAmount(r *rand.Rand) int {
	switch r.Intn(12) {
	case 0:
		return pick(r, noAmounts())
	case 1:
		return int(r.Uint64()) >> r.Intn(64)
	case 2, 3:
		return pick(r, amounts())
	case 4:
		return r.Intn(201) - 100
	}
	sign := 1 - 2*r.Intn(2)
	return sign * int(r.Int63n(great+1)>>r.Intn(50))
}

// drawWithin answers a number from 0 to 10^6 for the most part.
func drawWithin(r *rand.Rand) int {
	switch r.Intn(40) {
	case 0:
		return pick(r, outside())
	case 1, 2, 3, 4, 5:
		return pick(r, within())
	case 6, 7, 8, 9:
		return r.Intn(5)
	}
	return r.Intn(1000001) >> r.Intn(20)
}

func drawList(r *rand.Rand, most int, draw func(*rand.Rand) int) []int {
	out := make([]int, r.Intn(most+1))
	for i := range out {
		out[i] = draw(r)
	}
	return out
}

func TestDrawnTexts(t *testing.T) {
	told := map[api.Errno]int{}
	for seed := range int64(30000) {
		r := rand.New(rand.NewSource(seed))
		a := drawAmount(r)
		s, e := modelText(a)
		texted(t, a, s, e)
		told[e]++
		if s == "" {
			s = fmt.Sprint(a)
		}
		letters := []byte(s)
		for range r.Intn(3) {
			letters[r.Intn(len(letters))] = "0123456789.-+ x"[r.Intn(15)]
		}
		a, e = modelParse(string(letters))
		parsed(t, string(letters), a, e)
		told[e]++
		if t.Failed() {
			t.Fatal("seed", seed)
		}
	}
	for _, e := range []api.Errno{api.OK, api.ErrMoney, api.ErrForm} {
		if told[e] < 1000 {
			t.Error(told)
		}
	}
}

func TestDrawnSums(t *testing.T) {
	told := map[api.Errno]int{}
	for seed := range int64(30000) {
		r := rand.New(rand.NewSource(seed))
		l := drawList(r, 8, drawAmount)
		if r.Intn(2) == 0 { // one that has amounts alone
			l = slices.DeleteFunc(l, func(a int) bool { return !mayBe(bigOf(a)) })
		}
		a, e := modelSum(l)
		summed(t, l, a, e)
		told[e]++
		if t.Failed() {
			t.Fatal("seed", seed)
		}
	}
	for _, e := range []api.Errno{api.OK, api.ErrMoney, api.ErrRange} {
		if told[e] < 1000 {
			t.Error(told)
		}
	}
}

func TestDrawnPartsAndPrices(t *testing.T) {
	told := map[api.Errno]int{}
	for seed := range int64(50000) {
		r := rand.New(rand.NewSource(seed))
		a, rate := drawAmount(r), drawWithin(r)
		want, e := modelPart(a, rate)
		parted(t, a, rate, want, e)
		told[e]++
		a, many, rates := drawAmount(r), drawWithin(r), drawList(r, 4, drawWithin)
		want, e = modelPrice(a, many, rates)
		priced(t, a, many, rates, want, e)
		told[e+1000]++
		if t.Failed() {
			t.Fatal("seed", seed)
		}
	}
	for _, e := range []api.Errno{api.OK, api.ErrMoney, api.ErrRange} {
		if told[e] < 1000 || told[e+1000] < 1000 {
			t.Error(told)
		}
	}
}

func TestDrawnShares(t *testing.T) {
	told := map[api.Errno]int{}
	for seed := range int64(30000) {
		r := rand.New(rand.NewSource(seed))
		a, weights := drawAmount(r), drawList(r, 12, drawWithin)
		want, e := modelShare(a, weights)
		shared(t, a, weights, want, e)
		if e == api.OK {
			fair(t, a, weights)
		}
		told[e]++
		if t.Failed() {
			t.Fatal("seed", seed)
		}
	}
	for _, e := range []api.Errno{api.OK, api.ErrMoney, api.ErrRange} {
		if told[e] < 1000 {
			t.Error(told)
		}
	}
}
