package settle

// center is the number of the coordinator.
const center = 0

// coordinator decides about the deals.
type coordinator struct {
	machine
	patience int
	matters  []matter // one for each deal that began; they say nothing while it is down
}

// matter is what the coordinator knows of a deal.
type matter struct {
	state, waited int
	heard         [2]bool // which sites voted yes, or which acknowledged
}

// orders are the messages that the sites get about a deal until they are heard, by its state; 0 where there is none.
var orders = [...]int{Asking: Ask, Doing: Do, Dropping: Drop, Over: 0}

// begin begins to ask for a deal.
func (c *coordinator) begin(deal int, w *World) {
	c.matters = append(c.matters, matter{})
	c.turn(deal, Asking, w)
}

func (c *coordinator) receive(m Message, w *World) {
	x := &c.matters[m.Deal-1]
	e := event{m.Kind, x.state}
	switch {
	case e == event{Yes, Asking}:
		if x.hears(m.From) {
			c.save(record{kind: decided, deal: m.Deal})
			c.turn(m.Deal, Doing, w)
		}
	case e == event{Yes, Doing}:
		c.tell(m.From, Do, m.Deal, w)
	case e == event{Yes, Dropping}, e == event{Yes, Over}, e == event{Yes, Unknown}:
		c.tell(m.From, Drop, m.Deal, w)
	case e == event{No, Asking}:
		c.turn(m.Deal, Dropping, w)
	case e == event{Ack, Doing}, e == event{Ack, Dropping}:
		if x.hears(m.From) {
			c.turn(m.Deal, Over, w)
		}
	}
}

// hears notes that a site voted yes, or acknowledged, and tells whether both have.
func (x *matter) hears(site int) bool {
	x.heard[site-1] = true
	return x.heard[0] && x.heard[1]
}

// turn changes the state of a deal. No site was heard in that state yet.
func (c *coordinator) turn(deal, state int, w *World) {
	c.matters[deal-1] = matter{state: state}
	c.remind(deal, w)
}

// remind sends the order of a deal's state to the sites that were not heard yet.
func (c *coordinator) remind(deal int, w *World) {
	x := c.matters[deal-1]
	if orders[x.state] == 0 {
		return
	}
	for i, heard := range x.heard {
		if !heard {
			c.tell(i+1, orders[x.state], deal, w)
		}
	}
}

func (c *coordinator) tick(w *World) {
	for i := range c.matters {
		if c.matters[i].waits() == c.patience {
			c.turn(i+1, Dropping, w)
		} else {
			c.remind(i+1, w)
		}
	}
}

// waits lets a tick pass, and returns how many ticks a deal that is asking waited.
func (x *matter) waits() int {
	if x.state == Asking {
		x.waited++
	}
	return x.waited
}

// recall makes the deals that were decided doing, and all others unknown.
func (c *coordinator) recall(w *World) {
	c.matters = make([]matter, len(w.deals))
	for _, r := range c.log {
		c.matters[r.deal-1].state = Doing
	}
}

// tell sends a message to a site.
func (c *coordinator) tell(site, kind, deal int, w *World) {
	w.send(Message{From: center, To: site, Kind: kind, Deal: deal})
}
