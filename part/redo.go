package part

import (
	"cmp"
	"maps"
	"slices"

	"pigeonhole/api"
	"pigeonhole/deed"
)

// Redo does what a record says.
func (p *Part) Redo(rec []byte) api.Errno {
	if p.none() {
		return api.ErrNil
	}
	switch r := p.read(rec).(type) {
	case holding:
		return p.hold(r.part)
	case decision:
		return p.decide(r.tx, r.fate)
	case arrival:
		return p.arrive(r.user, r.epoch)
	case exit:
		return p.leave(r.seat)
	case outcome:
		return p.know(r.tx, r.fate)
	}
	return api.ErrForm
}

// Snapshot is records that make a shard alike.
func (p *Part) Snapshot() [][]byte {
	if p.none() {
		return nil
	}
	var here, gone, rest [][]byte
	for _, s := range p.Seats() {
		if s.Shard == p.shard {
			u, _ := p.users.User(s.User)
			here = append(here, arrival{s.Epoch, u}.bytes())
		} else {
			gone = append(gone, exit{s}.bytes())
		}
	}
	for _, tx := range slices.SortedFunc(maps.Keys(p.fates), byName) {
		rest = append(rest, outcome{tx, p.fates[tx]}.bytes())
	}
	for _, x := range p.held {
		rest = append(rest, holding{x}.bytes())
	}
	return slices.Concat(here, gone, rest)
}

// byName is the order of transactions.
func byName(a, b api.Tx) int {
	return cmp.Or(cmp.Compare(a.Node, b.Node), cmp.Compare(a.Boot, b.Boot), cmp.Compare(a.N, b.N))
}

// hold has a part be held.
func (p *Part) hold(x api.Part) api.Errno {
	if p.heldAt(x.Tx) >= 0 {
		return api.ErrState
	}
	if v, _ := p.Prepare(x); v.Errno != api.OK {
		return api.ErrState
	}
	p.held = append(p.held, x)
	return api.OK
}

// decide has a transaction be done, or dropped.
func (p *Part) decide(tx api.Tx, fate api.Fate) api.Errno {
	at := p.heldAt(tx)
	if _, known := p.fates[tx]; known || at < 0 && fate == api.Done {
		return api.ErrState
	}
	if at < 0 {
		return p.know(tx, fate)
	}
	if fate == api.Done {
		p.do(p.held[at].Deeds)
	}
	p.held = slices.Delete(p.held, at, at+1)
	p.fates[tx] = fate
	return api.OK
}

// do does the deeds of a part that is held: none of them is refused any more.
func (p *Part) do(l []api.Deed) {
	p.users.Do(l)
	for _, d := range l {
		switch d.Do {
		case api.Open:
			p.seats[d.User] = api.Seat{User: d.User, Shard: p.shard, Epoch: 1}
		case api.Enter:
			p.seats[d.User] = api.Seat{User: d.User, Shard: p.shard, Epoch: d.Epoch}
		case api.Leave:
			p.seats[d.User] = api.Seat{User: d.User, Shard: d.Shard, Epoch: d.Epoch}
		}
	}
}

// arrive has a user be there.
func (p *Part) arrive(u api.User, epoch int) api.Errno {
	if _, there := p.seat(u.Name); there || p.locked(u.Name) {
		return api.ErrState
	}
	b, _ := deed.PutUser(u) // it was taken from such bytes
	enter := []api.Deed{{Do: api.Enter, User: u.Name, Epoch: epoch, Bytes: b}}
	if p.full(enter...) {
		return api.ErrFull
	}
	p.do(enter)
	return api.OK
}

// leave has a user have left.
func (p *Part) leave(s api.Seat) api.Errno {
	// Of who is there, and of who left, a seat is kept.
	if _, known := p.seats[s.User]; known || p.locked(s.User) {
		return api.ErrState
	}
	if p.full(api.Deed{Do: api.Leave, User: s.User}) {
		return api.ErrFull
	}
	p.seats[s.User] = s
	return api.OK
}

// know has the fate of a transaction that is not held be known.
func (p *Part) know(tx api.Tx, fate api.Fate) api.Errno {
	if _, known := p.fates[tx]; known || p.heldAt(tx) >= 0 {
		return api.ErrState
	}
	if p.crowded() {
		return api.ErrFull
	}
	p.fates[tx] = fate
	return api.OK
}
