package money_test

import (
	"slices"
	"testing"

	"hopper/api"
	"hopper/money"
)

// R4: what is handed in is neither changed nor kept, what lies behind it is not read, and what is told is new.

// roomy is a copy of a list with spare room, in which lies what would be refused.
func roomy(list []int) []int {
	own := append(make([]int, 0, len(list)+5), list...)
	rest := own[len(own):cap(own)]
	for i := range rest {
		rest[i] = -77 * great
	}
	return own
}

// spoil writes over a list, and over its spare room.
func spoil(list []int) {
	list = list[:cap(list)]
	for i := range list {
		list[i] = 77 * great
	}
}

// unchanged does a call with a roomy copy of a list, and looks at all of it behind the call.
func unchanged(t *testing.T, list []int, call func([]int) api.Errno) {
	t.Helper()
	own := roomy(list)
	before := slices.Clone(own[:cap(own)])
	e := call(own)
	if !slices.Equal(own[:cap(own)], before) {
		t.Errorf("%d: %d is handed in, and %d came of it (%d)", list, before, own[:cap(own)], e)
	}
}

// lists are some that are right for one call or other, and some that are for none.
func lists() [][]int {
	return [][]int{{}, {0}, {1}, {5, 3}, {1, 1, 1}, {0, 3, 0, 1}, {1000, 500}, {0, 0}, {-1, 2}, {3, -1}, {1000000, 1}, {1000001}, {great, 1}, {great, great, least}, {great + 1, 1}, repeat(1, 1000), repeat(1, 1001)}
}

func TestWhatIsHandedInStays(t *testing.T) {
	told := map[api.Errno]int{}
	for _, list := range lists() {
		for _, a := range []int{0, 1, -7, 100, great, least, great + 1} {
			unchanged(t, list, func(l []int) api.Errno {
				n, e := money.Sum(l)
				want, wantE := modelSum(list)
				if n != want || e != wantE {
					t.Errorf("Sum of %d: %d %d", list, n, e)
				}
				told[e]++
				return e
			})
			unchanged(t, list, func(l []int) api.Errno {
				n, e := money.Price(a, 3, l)
				want, wantE := modelPrice(a, 3, list)
				if n != want || e != wantE {
					t.Errorf("Price of %d, 3, %d: %d %d", a, list, n, e)
				}
				told[e]++
				return e
			})
			unchanged(t, list, func(l []int) api.Errno {
				shares, e := money.Share(a, l)
				want, wantE := modelShare(a, list)
				if !slices.Equal(shares, want) || e != wantE {
					t.Errorf("Share of %d, %d: %d %d", a, list, shares, e)
				}
				// Neither may the shares be written where the weights are.
				spoil(shares)
				told[e]++
				return e
			})
		}
	}
	if told[api.OK] < 20 || told[api.ErrMoney] < 20 || told[api.ErrRange] < 20 {
		t.Error(told)
	}
}

// Shares that were told stay as they are, whatever is done with the weights and with other shares.
func TestSharesAreNew(t *testing.T) {
	for _, list := range lists() {
		for _, a := range []int{0, 1, -7, 100, great, least} {
			want, wantE := modelShare(a, list)
			weights := roomy(list)
			first, _ := money.Share(a, weights)
			second, _ := money.Share(a, weights)
			spoil(second)
			third, e := money.Share(a, weights)
			spoil(weights)
			fourth, _ := money.Share(a, roomy(list))
			if !slices.Equal(first, want) || !slices.Equal(third, want) || !slices.Equal(fourth, want) || e != wantE {
				t.Errorf("Share of %d, %d: %d, %d, %d (%d)", a, list, first, third, fourth, e)
			}
			spoil(first)
			spoil(fourth)
			if !slices.Equal(third, want) {
				t.Errorf("Share of %d, %d: %d", a, list, third)
			}
		}
	}
}
