package tpcc

import "hopper/table"

// ledger has all rows at hand, those of lines by their orders, too. Rows stand in the order of their keys.
type ledger struct {
	rows map[string][]*row
	of   map[threefold][]*row
}

// A twofold and a threefold are the first numbers of a row.
type (
	twofold   [2]int64
	threefold [3]int64
)

func newLedger(d *table.Data) *ledger {
	l := &ledger{rows: map[string][]*row{}, of: map[threefold][]*row{}}
	for _, t := range Tables() {
		rows, _ := d.Rows(t.Name)
		for _, list := range rows {
			l.rows[t.Name] = append(l.rows[t.Name], &row{table: t.Name, values: list})
		}
	}
	for _, x := range l.rows[line] {
		l.of[x.three()] = append(l.of[x.three()], x)
	}
	return l
}

func (r *row) two() twofold { return twofold{r.at(0), r.at(1)} }

func (r *row) three() threefold { return threefold{r.at(0), r.at(1), r.at(2)} }

// holds tells whether all that goes together does.
func (l *ledger) holds() bool {
	for _, holds := range []func(*ledger) bool{
		(*ledger).nextsHold, (*ledger).freshHold, (*ledger).linesHold, (*ledger).housesHold,
		(*ledger).districtsHold, (*ledger).customersHold, (*ledger).stocksHold,
	} {
		if !holds(l) {
			return false
		}
	}
	return true
}

func (l *ledger) nextsHold() bool {
	nexts := map[twofold]int64{}
	for _, x := range l.rows[orders] {
		// The last one of a district has the greatest number.
		nexts[x.two()] = x.at(orderNumber) + 1
	}
	for _, x := range l.rows[district] {
		next, there := nexts[x.two()]
		if !there {
			next = 1
		}
		if x.at(districtNext) != next {
			return false
		}
	}
	return true
}

func (l *ledger) freshHold() bool {
	carriers := map[threefold]int64{}
	for _, x := range l.rows[orders] {
		carriers[x.three()] = x.at(orderCarrier)
	}
	for _, x := range l.rows[fresh] {
		if carrier, there := carriers[x.three()]; !there || carrier != 0 {
			return false
		}
	}
	return true
}

func (l *ledger) linesHold() bool {
	for _, x := range l.rows[orders] {
		lines := l.of[x.three()]
		if x.at(orderLines) != int64(len(lines)) {
			return false
		}
		for at, y := range lines {
			if y.at(lineNumber) != int64(at+1) {
				return false
			}
		}
	}
	return true
}

func (l *ledger) housesHold() bool {
	sums := map[int64]int64{}
	for _, x := range l.rows[district] {
		sums[x.at(0)] += x.at(districtYtd)
	}
	for _, x := range l.rows[house] {
		if x.at(houseYtd) != sums[x.at(0)] {
			return false
		}
	}
	return true
}

func (l *ledger) districtsHold() bool {
	sums := map[twofold]int64{}
	for _, x := range l.rows[customer] {
		sums[x.two()] += x.at(customerPaid)
	}
	for _, x := range l.rows[district] {
		if x.at(districtYtd) != sums[x.two()] {
			return false
		}
	}
	return true
}

func (l *ledger) customersHold() bool {
	sums := map[threefold]int64{}
	for _, x := range l.rows[orders] {
		if x.at(orderCarrier) == 0 {
			continue
		}
		buyer := threefold{x.at(0), x.at(1), x.at(orderCustomer)}
		for _, y := range l.of[x.three()] {
			sums[buyer] += y.at(lineAmount)
		}
	}
	for _, x := range l.rows[customer] {
		if x.at(customerBalance)+x.at(customerPaid) != sums[x.three()] {
			return false
		}
	}
	return true
}

func (l *ledger) stocksHold() bool {
	sold, lines := map[twofold]int64{}, map[twofold]int64{}
	for _, x := range l.rows[line] {
		from := twofold{x.at(lineFrom), x.at(lineItem)}
		sold[from] += x.at(lineMany)
		lines[from]++
	}
	for _, x := range l.rows[stock] {
		if x.at(stockSold) != sold[x.two()] || x.at(stockOrders) != lines[x.two()] {
			return false
		}
	}
	return true
}
