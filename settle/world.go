package settle

import "oast/api"

func isConfig(c Config) bool {
	return within(int64(c.Members), 1, api.MaxMember) && within(int64(c.Patience), 1, maxPatience) &&
		areAmounts(c.Money, c.Members) && areAmounts(c.Goods, c.Members)
}

// areAmounts tells whether a list has an amount for each member.
func areAmounts(l []int64, members int) bool {
	if len(l) != members {
		return false
	}
	for _, x := range l {
		if !isAmount(x) {
			return false
		}
	}
	return true
}

func isDeal(d Deal, members int) bool {
	return within(int64(d.Buyer), 1, int64(members)) && within(int64(d.Seller), 1, int64(members)) &&
		d.Buyer != d.Seller && isAmount(d.Money) && isAmount(d.Goods)
}

func isAmount(x int64) bool { return within(x, 0, api.MaxMoney) }

func within(n, least, most int64) bool { return n >= least && n <= most }

func (w *World) members() int { return len(w.sites[0].first) }

// began tells whether there is a deal with this number.
func (w *World) began(deal int) bool { return deal >= 1 && deal <= len(w.deals) }

// nodes are the coordinator and the sites, by their numbers.
func (w *World) nodes() [3]node {
	return [3]node{&w.coordinator, &w.sites[0], &w.sites[1]}
}

// find returns the node with a number.
func (w *World) find(number int) (node, api.Errno) {
	if w == nil {
		return nil, api.ErrNil
	}
	nodes := w.nodes()
	if number < 0 || number >= len(nodes) {
		return nil, api.ErrNone
	}
	return nodes[number], api.OK
}

// findSite returns the site with a number.
func (w *World) findSite(number int) (*site, api.Errno) {
	switch {
	case w == nil:
		return nil, api.ErrNil
	case number < 1 || number > len(w.sites):
		return nil, api.ErrNone
	}
	return &w.sites[number-1], api.OK
}

// checkMessage tells what is wrong with the place of a message in the bag.
func (w *World) checkMessage(i int) api.Errno {
	switch {
	case w == nil:
		return api.ErrNil
	case i < 0 || i >= len(w.bag):
		return api.ErrNone
	}
	return api.OK
}

func (w *World) send(m Message) { w.bag = append(w.bag, m) }

// take takes a message out of the bag. Those before it move up by one, as most messages are taken near the front.
func (w *World) take(i int) Message {
	m := w.bag[i]
	copy(w.bag[1:i+1], w.bag[:i])
	w.bag = w.bag[1:]
	return m
}

// bring brings a message to its node. If that is down, the message is lost; if a sync burns out there, the node is down.
func (w *World) bring(m Message) {
	n := w.nodes()[m.To]
	if n.base().down {
		return
	}
	defer func() {
		cause := recover()
		if cause == nil {
			return
		}
		if _, ok := cause.(burnout); !ok {
			panic(cause) // a fault of the program is not to pass for a crash
		}
		n.base().down = true
	}()
	n.receive(m, w)
}

func (w *World) restart(n node) {
	n.base().restart()
	n.recall(w)
}

// round delivers the messages that wait, but not those that are sent meanwhile, and lets all nodes tick.
func (w *World) round() {
	waiting := w.bag
	w.bag = nil
	for _, m := range waiting {
		w.bring(m)
	}
	for _, n := range w.nodes() {
		n.tick(w)
	}
}
