package tpcc

const (
	mostLines   = 15
	mostMany    = 10
	mostCarrier = 10
	leastLeft   = 10
	refill      = 91
	lookBack    = 20
)

// deed is one of the calls: whether it takes so many arguments of such a size, and what it does and tells.
type deed struct {
	takes func(args []int64) bool
	does  func(b *books, args []int64) [][]int64
}

// deedOf answers one that does nothing, if no call has that name.
func deedOf(name string) deed {
	switch name {
	case "new":
		return deed{isOrder, (*books).order}
	case "pay":
		return deed{isPayment, (*books).pay}
	case "state":
		return deed{areThree, (*books).state}
	case "bring":
		return deed{isRound, (*books).bring}
	case "low":
		return deed{areThree, (*books).low}
	}
	return deed{}
}

func areThree(args []int64) bool { return len(args) == 3 }

func isPayment(args []int64) bool { return len(args) == 4 && args[3] > 0 && isAmount(args[3]) }

func isRound(args []int64) bool { return len(args) == 2 && isUpTo(args[1], mostCarrier) }

// isOrder looks for w, d, c, and then i, from, many of each line.
func isOrder(args []int64) bool {
	if len(args)%3 != 0 || !isUpTo(len(args)/3-1, mostLines) {
		return false
	}
	for at := 5; at < len(args); at += 3 {
		if !isUpTo(args[at], mostMany) {
			return false
		}
	}
	return true
}

// want is a line of an order that is not reckoned yet.
type want struct {
	i, from, many int64
	item, stock   *row
}

func (b *books) order(args []int64) [][]int64 {
	w, d, c := args[0], args[1], args[2]
	atHouse := b.read(house, w)
	inDistrict := b.read(district, w, d)
	buyer := b.read(customer, w, d, c)
	wants := b.wants(args[3:])
	o := inDistrict.at(districtNext)
	b.raise(inDistrict, districtNext, 1)
	b.put(orders, w, d, o, c, int64(len(wants)), 0)
	b.put(fresh, w, d, o)
	sum := int64(0)
	for at, x := range wants {
		amount := b.take(x)
		b.put(line, w, d, o, int64(at+1), x.i, x.from, x.many, amount)
		sum += amount
	}
	tax := atHouse.at(houseTax) + inDistrict.at(districtTax)
	return [][]int64{{o, b.total(sum, tax, buyer.at(customerOff))}}
}

// wants reads what all lines need, ahead of any reckoning.
func (b *books) wants(args []int64) []want {
	var out []want
	for ; len(args) > 0; args = args[3:] {
		x := want{i: args[0], from: args[1], many: args[2]}
		x.item = b.read(item, x.i)
		x.stock = b.read(stock, x.from, x.i)
		out = append(out, x)
	}
	return out
}

// take lowers the stock of a line, and answers the line's amount.
func (b *books) take(x want) int64 {
	left := x.stock.at(stockLeft) - x.many
	if left < leastLeft {
		left += refill
	}
	b.set(x.stock, stockLeft, left)
	b.raise(x.stock, stockSold, x.many)
	b.raise(x.stock, stockOrders, 1)
	return b.amount(x.item.at(itemPrice) * x.many)
}

// total leaves it to part to refuse a sum that is no amount, with and without the tax. Behind that, two amounts on one side of 0 are not farther from each other than an amount may be.
func (b *books) total(sum, tax, off int64) int64 {
	taxed := sum + b.part(sum, tax)
	return taxed - b.part(taxed, off)
}

func (b *books) pay(args []int64) [][]int64 {
	w, d, c, a := args[0], args[1], args[2], args[3]
	atHouse := b.read(house, w)
	inDistrict := b.read(district, w, d)
	payer := b.read(customer, w, d, c)
	b.raise(atHouse, houseYtd, a)
	b.raise(inDistrict, districtYtd, a)
	b.raise(payer, customerPaid, a)
	b.raise(payer, customerBalance, -a)
	b.raise(payer, customerTimes, 1)
	return [][]int64{{payer.at(customerBalance)}}
}

func (b *books) state(args []int64) [][]int64 {
	w, d, c := args[0], args[1], args[2]
	told := [][]int64{{b.read(customer, w, d, c).at(customerBalance)}}
	var last *row
	for _, x := range b.under(orders, w, d) {
		if x.at(orderCustomer) == c {
			last = x
		}
	}
	if last == nil {
		return told
	}
	o := last.at(orderNumber)
	told = append(told, []int64{o, last.at(orderCarrier), last.at(orderLines)})
	for _, x := range b.under(line, w, d, o) {
		told = append(told, []int64{x.at(lineItem), x.at(lineFrom), x.at(lineMany), x.at(lineAmount)})
	}
	return told
}

func (b *books) bring(args []int64) [][]int64 {
	w, k := args[0], args[1]
	b.read(house, w)
	var told [][]int64
	for _, x := range b.under(district, w) {
		d := x.at(districtOf)
		for _, oldest := range b.firstUnder(1, fresh, w, d) {
			o := oldest.at(freshOrder)
			b.deliver(w, d, o, k)
			told = append(told, []int64{d, o})
		}
	}
	return told
}

// deliver has an order fresh no more, and its customer owe what it comes to.
func (b *books) deliver(w, d, o, carrier int64) {
	b.remove(fresh, w, d, o)
	brought := b.read(orders, w, d, o)
	b.set(brought, orderCarrier, carrier)
	buyer := b.read(customer, w, d, brought.at(orderCustomer))
	sum := int64(0)
	for _, x := range b.under(line, w, d, o) {
		sum += x.at(lineAmount)
	}
	b.raise(buyer, customerBalance, sum)
}

func (b *books) low(args []int64) [][]int64 {
	w, d, t := args[0], args[1], args[2]
	from := max(1, b.read(district, w, d).at(districtNext)-lookBack)
	lows := map[int64]int{}
	for _, x := range b.under(orders, w, d) {
		if x.at(orderNumber) < from {
			continue
		}
		for _, y := range b.under(line, w, d, x.at(orderNumber)) {
			i := y.at(lineItem)
			if b.read(stock, w, i).at(stockLeft) < t {
				lows[i]++
			}
		}
	}
	return [][]int64{{int64(len(lows))}}
}
