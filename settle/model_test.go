package settle_test

import (
	"fmt"
	"maps"
	"slices"

	"oast/api"
	"oast/settle"
)

// model is a world that is kept as the chapter defines it: what a site knows is looked up in its log by the words of the
// definitions, and a burnt sync is a false that the handlers return on.
type model struct {
	members, patience int
	first             [3][]int64
	deals             []settle.Deal
	bag               []settle.Message
	nodes             [3]machine
	asking            map[int]votes
	doing, dropping   map[int]acks
	over              map[int]bool
}

type machine struct {
	log         []note
	safe, fuse  int
	down, burnt bool
}

type note struct {
	what string
	deal int
}

type votes struct {
	yes   [3]bool
	ticks int
}

type acks [3]bool

func newModel(c settle.Config) *model {
	m := &model{members: c.Members, patience: c.Patience, first: [3][]int64{nil, slices.Clone(c.Money), slices.Clone(c.Goods)}}
	m.forget()
	return m
}

func (m *model) forget() {
	m.asking, m.doing, m.dropping, m.over = map[int]votes{}, map[int]acks{}, map[int]acks{}, map[int]bool{}
}

func (m *model) fork() *model {
	f := *m
	f.deals, f.bag = slices.Clone(m.deals), slices.Clone(m.bag)
	for i := range f.nodes {
		f.nodes[i].log = slices.Clone(m.nodes[i].log)
	}
	f.asking, f.doing, f.dropping, f.over = maps.Clone(m.asking), maps.Clone(m.doing), maps.Clone(m.dropping), maps.Clone(m.over)
	return &f
}

// key tells apart models that could behave differently.
func (m *model) key() string { return fmt.Sprint(*m) }

func (m *model) has(node int, what string, deal int) bool {
	return slices.Contains(m.nodes[node].log, note{what, deal})
}

func (m *model) isDone(node, deal int) bool    { return m.has(node, "done", deal) }
func (m *model) isDropped(node, deal int) bool { return m.has(node, "dropped", deal) }
func (m *model) isPrepared(node, deal int) bool {
	return m.has(node, "prepared", deal) && !m.isDone(node, deal) && !m.isDropped(node, deal)
}

// takes is what a deal's leg moves: from whom, to whom, how much.
func (m *model) takes(node, deal int) (from, to int, amount int64) {
	d := m.deals[deal-1]
	if node == 1 {
		return d.Buyer, d.Seller, d.Money
	}
	return d.Seller, d.Buyer, d.Goods
}

func (m *model) balances(node int) []int64 {
	l := slices.Clone(m.first[node])
	for i := range m.deals {
		if from, to, amount := m.takes(node, i+1); m.isDone(node, i+1) {
			l[from-1], l[to-1] = l[from-1]-amount, l[to-1]+amount
		}
	}
	return l
}

func (m *model) free(node int) []int64 {
	l := m.balances(node)
	for i := range m.deals {
		if from, _, amount := m.takes(node, i+1); m.isPrepared(node, i+1) {
			l[from-1] -= amount
		}
	}
	return l
}

func (m *model) send(from, to, kind, deal int) {
	m.bag = append(m.bag, message(from, to, kind, deal))
}

// write writes a record and syncs. It is false if the sync burns out.
func (m *model) write(node int, what string, deal int) bool {
	n := &m.nodes[node]
	n.log = append(n.log, note{what, deal})
	n.fuse--
	if n.fuse == 0 {
		n.down, n.burnt = true, true
		return false
	}
	n.fuse = max(n.fuse, 0)
	n.safe = len(n.log)
	return true
}

func (m *model) bring(x settle.Message) {
	switch {
	case m.nodes[x.To].down:
	case x.To == 0:
		m.coordinate(x)
	case x.Kind == settle.Ask:
		m.ask(x.To, x.Deal)
	case x.Kind == settle.Do:
		m.do(x.To, x.Deal)
	case x.Kind == settle.Drop:
		m.drop(x.To, x.Deal)
	}
}

func (m *model) ask(node, deal int) {
	if m.isPrepared(node, deal) || m.isDone(node, deal) {
		m.send(node, 0, settle.Yes, deal)
		return
	}
	if m.isDropped(node, deal) {
		m.send(node, 0, settle.No, deal)
		return
	}
	from, _, amount := m.takes(node, deal)
	if m.free(node)[from-1] < amount {
		m.send(node, 0, settle.No, deal)
		return
	}
	if m.write(node, "prepared", deal) {
		m.send(node, 0, settle.Yes, deal)
	}
}

func (m *model) do(node, deal int) {
	if m.isPrepared(node, deal) && m.write(node, "done", deal) || m.isDone(node, deal) && !m.nodes[node].down {
		m.send(node, 0, settle.Ack, deal)
	}
}

func (m *model) drop(node, deal int) {
	if m.isDone(node, deal) {
		return
	}
	if !m.isPrepared(node, deal) || m.write(node, "dropped", deal) {
		m.send(node, 0, settle.Ack, deal)
	}
}

func (m *model) coordinate(x settle.Message) {
	n := x.Deal
	v, asks := m.asking[n]
	a, does := m.doing[n]
	b, drops := m.dropping[n]
	switch {
	case x.Kind == settle.Yes && asks:
		v.yes[x.From] = true
		m.asking[n] = v
		if v.yes[1] && v.yes[2] && m.write(0, "decided", n) {
			delete(m.asking, n)
			m.doing[n] = acks{}
			m.send(0, 1, settle.Do, n)
			m.send(0, 2, settle.Do, n)
		}
	case x.Kind == settle.Yes && does:
		m.send(0, x.From, settle.Do, n)
	case x.Kind == settle.Yes:
		m.send(0, x.From, settle.Drop, n)
	case x.Kind == settle.No && asks:
		m.giveUp(n)
	case x.Kind == settle.Ack && does:
		a[x.From] = true
		m.doing[n] = a
		if a[1] && a[2] {
			delete(m.doing, n)
			m.over[n] = true
		}
	case x.Kind == settle.Ack && drops:
		b[x.From] = true
		m.dropping[n] = b
		if b[1] && b[2] {
			delete(m.dropping, n)
			m.over[n] = true
		}
	}
}

func (m *model) giveUp(deal int) {
	delete(m.asking, deal)
	m.dropping[deal] = acks{}
	m.send(0, 1, settle.Drop, deal)
	m.send(0, 2, settle.Drop, deal)
}

// remind sends a message to the sites that were not heard.
func (m *model) remind(kind, deal int, heard [3]bool) {
	for node := 1; node <= 2; node++ {
		if !heard[node] {
			m.send(0, node, kind, deal)
		}
	}
}

func (m *model) pass(node int) {
	for n := 1; n <= len(m.deals); n++ {
		if node != 0 {
			if m.isPrepared(node, n) {
				m.send(node, 0, settle.Yes, n)
			}
			continue
		}
		if v, ok := m.asking[n]; ok {
			v.ticks++
			m.asking[n] = v
			if v.ticks == m.patience {
				m.giveUp(n)
			} else {
				m.remind(settle.Ask, n, v.yes)
			}
		} else if a, ok := m.doing[n]; ok {
			m.remind(settle.Do, n, a)
		} else if b, ok := m.dropping[n]; ok {
			m.remind(settle.Drop, n, b)
		}
	}
}

func (m *model) begin(d settle.Deal) (int, api.Errno) {
	for _, member := range []int{d.Buyer, d.Seller} {
		if member < 1 || member > m.members {
			return 0, api.ErrArg
		}
	}
	if d.Buyer == d.Seller || d.Money < 0 || d.Money > api.MaxMoney || d.Goods < 0 || d.Goods > api.MaxMoney {
		return 0, api.ErrArg
	}
	if m.nodes[0].down {
		return 0, api.ErrDown
	}
	if len(m.deals) == maxDeals || len(m.bag) > maxWaiting {
		return 0, api.ErrFull
	}
	m.deals = append(m.deals, d)
	n := len(m.deals)
	m.asking[n] = votes{}
	m.send(0, 1, settle.Ask, n)
	m.send(0, 2, settle.Ask, n)
	return n, api.OK
}

func (m *model) take(i int) settle.Message {
	x := m.bag[i]
	m.bag = slices.Delete(m.bag, i, i+1)
	return x
}

func (m *model) crash(node, kept int) api.Errno {
	n := &m.nodes[node]
	switch {
	case kept < 0:
		return api.ErrArg
	case n.down && !n.burnt:
		return api.ErrDown
	}
	n.safe += min(kept, len(n.log)-n.safe)
	n.log = n.log[:n.safe]
	n.fuse, n.down, n.burnt = 0, true, false
	if node == 0 {
		m.forget()
	}
	return api.OK
}

func (m *model) restart(node int) api.Errno {
	n := &m.nodes[node]
	if !n.down {
		return api.ErrState
	}
	n.safe = len(n.log)
	n.fuse, n.down, n.burnt = 0, false, false
	if node == 0 {
		m.forget()
		for _, r := range n.log {
			m.doing[r.deal] = acks{}
		}
	}
	return api.OK
}

func (m *model) heal(rounds int) (int, api.Errno) {
	if rounds < 0 || rounds > 1000 {
		return 0, api.ErrArg
	}
	for node := range 3 {
		m.restart(node)
		m.nodes[node].fuse = 0
	}
	for range rounds {
		for range len(m.bag) {
			m.bring(m.take(0))
		}
		for node := range 3 {
			m.pass(node)
		}
	}
	return len(m.bag), api.OK
}

func (m *model) state(deal int) int {
	if _, ok := m.asking[deal]; ok && !m.nodes[0].down {
		return settle.Asking
	}
	if _, ok := m.doing[deal]; ok && !m.nodes[0].down {
		return settle.Doing
	}
	if _, ok := m.dropping[deal]; ok && !m.nodes[0].down {
		return settle.Dropping
	}
	if m.over[deal] && !m.nodes[0].down {
		return settle.Over
	}
	return settle.Unknown
}

func (m *model) mark(node, deal int) int {
	switch {
	case node == 0:
		return 0
	case m.isDone(node, deal):
		return settle.Done
	case m.isDropped(node, deal):
		return settle.Dropped
	case m.isPrepared(node, deal):
		return settle.Prepared
	}
	return 0
}

// picture is what pictureOf is of the world that the model is of.
func (m *model) picture() string {
	p := picture{bag: m.bag, deals: m.deals}
	for node, n := range m.nodes {
		p.up[node], p.logs[node] = !n.down, [2]int{len(n.log), n.safe}
		if node > 0 {
			p.balances[node], p.free[node] = m.balances(node), m.free(node)
		}
		for i := range m.deals {
			p.marks[node] = append(p.marks[node], m.mark(node, i+1))
		}
	}
	for i := range m.deals {
		p.states = append(p.states, m.state(i+1))
	}
	return fmt.Sprint(p)
}

// step is a call that changes a world.
type step struct {
	call string
	i, n int
	d    settle.Deal
}

type result struct {
	n int
	e api.Errno
}

func (s step) of(w *settle.World) (r result) {
	switch s.call {
	case "begin":
		r.n, r.e = w.Begin(s.d)
	case "deliver":
		r.e = w.Deliver(s.i)
	case "lose":
		r.e = w.Lose(s.i)
	case "copy":
		r.e = w.Copy(s.i)
	case "tick":
		r.e = w.Tick(s.i)
	case "crash":
		r.e = w.Crash(s.i, s.n)
	case "restart":
		r.e = w.Restart(s.i)
	case "fuse":
		r.e = w.Fuse(s.i, s.n)
	case "heal":
		r.n, r.e = w.Heal(s.i)
	}
	return r
}

func (s step) ofModel(m *model) (r result) {
	switch s.call {
	case "begin":
		r.n, r.e = m.begin(s.d)
		return r
	case "heal":
		r.n, r.e = m.heal(s.i)
		return r
	case "deliver", "lose", "copy":
		if s.i < 0 || s.i >= len(m.bag) {
			return result{e: api.ErrNone}
		}
	default:
		if s.i < 0 || s.i > 2 {
			return result{e: api.ErrNone}
		}
	}
	switch s.call {
	case "deliver":
		m.bring(m.take(s.i))
	case "lose":
		m.take(s.i)
	case "copy":
		if len(m.bag) > maxWaiting {
			return result{e: api.ErrFull}
		}
		m.bag = append(m.bag, m.bag[s.i])
	case "tick":
		if m.nodes[s.i].down {
			return result{e: api.ErrDown}
		}
		m.pass(s.i)
	case "crash":
		r.e = m.crash(s.i, s.n)
	case "restart":
		r.e = m.restart(s.i)
	case "fuse":
		if s.n < 0 {
			return result{e: api.ErrArg}
		}
		m.nodes[s.i].fuse = max(s.n, 1)
	}
	return r
}
