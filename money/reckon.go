package money

import "hopper/api"

func isWithin(n, most int) bool { return 0 <= n && n <= most }

func isAmount(a int) bool { return -mostCents <= a && a <= mostCents }

func allWithin(list []int, most int) bool {
	for i := range len(list) {
		if !isWithin(list[i], most) {
			return false
		}
	}
	return true
}

// amount refuses what came out of a reckoning and is no amount.
func amount(n int) (int, api.Errno) {
	if !isAmount(n) {
		return 0, api.ErrRange
	}
	return n, api.OK
}

// sum keeps the greatest amounts apart and counts them, as many amounts come to more than an int holds, and may come back from there.
func sum(amounts ...int) (int, api.Errno) {
	count, rest := 0, 0
	for i := range len(amounts) {
		rest += amounts[i]
		count += rest / mostCents
		rest %= mostCents
	}
	// The rest is less than one of them, so that two or more are too much, whatever its sign is.
	if count < -1 || count > 1 {
		return 0, api.ErrRange
	}
	return amount(count*mostCents + rest)
}

// times looks ahead of multiplying, as an int might not hold the product.
func times(a, many int) (int, api.Errno) {
	if many == 0 {
		return 0, api.OK
	}
	most := mostCents / many
	if a < -most || a > most {
		return 0, api.ErrRange
	}
	return a * many, api.OK
}

// raise answers the amount with its Part of a rate on top.
func raise(a, rate int) (int, api.Errno) {
	part, e := Part(a, rate)
	if e != api.OK {
		return 0, e
	}
	return sum(a, part)
}

// portion answers a times n, divided by d, towards 0, and what is left of the division. It divides first, as an int might not hold the product; both halves have the sign of a, so that none of them takes from the other.
func portion(a, n, d int) (whole, rest int) {
	rest = a % d * n
	return a/d*n + rest/d, rest % d
}

// dealOut gives what is left to those with a weight, a cent each. Each of them lost less than a cent, so that there are more of them than cents.
func dealOut(left int, shares, weights []int) {
	cent := 1
	if left < 0 {
		cent = -1
	}
	next := 0
	for range left * cent {
		for weights[next] == 0 {
			next++
		}
		shares[next] += cent
		next++
	}
}
