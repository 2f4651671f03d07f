package settle

// node is what the coordinator and the sites share.
type node interface {
	receive(m Message, w *World) // does what the node does when a message comes to it
	tick(w *World)
	recall(w *World) // makes the node know what its log determines
	base() *machine
}

// machine is what every node has: a log, which alone outlasts a crash, and a fuse.
type machine struct {
	log  []record
	safe int // how many records are safe, from the first one on
	fuse int // at which sync from now it burns out, or 0
	down bool
}

// record is a record of a log.
type record struct {
	kind, deal int
	leg        leg
}

// decided is the kind of the coordinator's records; those of the sites are Prepared, Done and Dropped.
const decided = Dropped + 1

// event is a kind of message, and what the node that it comes to knows of its deal.
type event struct{ kind, known int }

// burnout is the value of the panic by which a sync that burns out leaves what the node was doing.
type burnout struct{}

func (m *machine) base() *machine { return m }

// save writes a record and syncs.
func (m *machine) save(r record) {
	m.log = append(m.log, r)
	m.sync()
}

func (m *machine) sync() {
	if m.fuse > 0 {
		m.fuse--
		if m.fuse == 0 {
			panic(burnout{})
		}
	}
	m.safe = len(m.log)
}

// burnt tells whether the fuse burnt out, and neither a crash nor a restart has decided about the records since. Only then some are
// not safe.
func (m *machine) burnt() bool { return m.safe < len(m.log) }

// keep shortens the log. What is written next gets new memory, as forks may share what lies behind the end.
func (m *machine) keep(records int) { m.log = m.log[:records:records] }

// crash loses the records that are not safe, but for the first kept ones.
func (m *machine) crash(kept int) {
	m.safe += min(kept, len(m.log)-m.safe)
	m.keep(m.safe)
	m.fuse, m.down = 0, true
}

func (m *machine) restart() {
	m.safe = len(m.log)
	m.fuse, m.down = 0, false
}
