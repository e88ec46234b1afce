package part

import (
	"slices"

	"pigeonhole/api"
	"pigeonhole/deed"
)

// mostNode is the greatest number that a node in a transaction's name may have.
const mostNode = 255

// Prepare is a shard's vote, and the record that goes with it.
func (p *Part) Prepare(x api.Part) (api.Vote, []byte) {
	if p.none() {
		return api.Vote{Errno: api.ErrNil}, nil
	}
	if e := p.check(x); e != api.OK {
		return api.Vote{Errno: e}, nil
	}
	if at := p.heldAt(x.Tx); at >= 0 {
		// Its users are locked since it is held, so that its deeds tell what they told then.
		return p.vote(p.held[at].Deeds), nil
	}
	if e, seat := p.refuses(x); e != api.OK {
		return api.Vote{Errno: e, Seat: seat}, nil
	}
	v := p.vote(x.Deeds)
	if v.Errno != api.OK {
		return v, nil
	}
	return v, holding{x}.bytes()
}

// Decide is the record of a decision.
func (p *Part) Decide(tx api.Tx, done bool) ([]byte, api.Errno) {
	if p.none() {
		return nil, api.ErrNil
	}
	if !right(tx) {
		return nil, api.ErrArg
	}
	fate, held := api.Dropped, p.heldAt(tx) >= 0
	if done {
		fate = api.Done
	}
	if was, known := p.fates[tx]; known {
		if was != fate {
			return nil, api.ErrState
		}
		return nil, api.OK
	}
	if done && !held {
		return nil, api.ErrGone
	}
	if !held && p.crowded() {
		return nil, api.ErrFull
	}
	return decision{tx, fate}.bytes(), api.OK
}

// Ask is a transaction's fate, and the record that it needs.
func (p *Part) Ask(tx api.Tx) (api.Fate, []byte) {
	if p.none() || !right(tx) || p.heldAt(tx) >= 0 {
		return api.Unknown, nil
	}
	if fate, known := p.fates[tx]; known {
		return fate, nil
	}
	if p.crowded() {
		return api.Unknown, nil
	}
	return api.Dropped, decision{tx, api.Dropped}.bytes()
}

// check is what is wrong with a part, whatever the shard knows.
func (p *Part) check(x api.Part) api.Errno {
	beyond := func(epoch int) bool { return epoch < 0 || epoch > api.MaxNumber }
	if !right(x.Tx) || !p.among(x.Peers) || len(x.Epochs) != len(x.Deeds) || slices.ContainsFunc(x.Epochs, beyond) {
		return api.ErrArg
	}
	_, e := deed.PutAll(x.Deeds)
	return e
}

// among: do shards rise, and is this one of them?
func (p *Part) among(peers []int) bool {
	last := -1
	for _, n := range peers {
		if n <= last || n >= p.shards {
			return false
		}
		last = n
	}
	return slices.Contains(peers, p.shard)
}

// refuses is why a part can't be held, as far as that hangs on what the shard knows but its users' boxes; with ErrStale, where the user is.
func (p *Part) refuses(x api.Part) (api.Errno, api.Seat) {
	if _, known := p.fates[x.Tx]; known {
		return api.ErrState, api.Seat{}
	}
	if len(p.held) >= api.MaxHeld || p.crowded() {
		return api.ErrFull, api.Seat{}
	}
	for i, d := range x.Deeds {
		if seat, stale := p.stale(d, x.Epochs[i]); stale {
			return api.ErrStale, seat
		}
		if e := p.refusesDeed(d, x.Deeds[:i]); e != api.OK {
			return e, api.Seat{}
		}
	}
	if p.full(x.Deeds...) {
		return api.ErrFull, api.Seat{}
	}
	return api.OK, api.Seat{}
}

// stale: is a deed's user elsewhere, or there by another epoch? If so, where it is.
func (p *Part) stale(d api.Deed, epoch int) (api.Seat, bool) {
	seat, there := p.seat(d.User)
	switch d.Do {
	case api.Open:
		return seat, there || seat.Shard != p.shard
	case api.Enter:
		return seat, there || d.Epoch <= seat.Epoch
	}
	return seat, !there || epoch != seat.Epoch
}

// refusesDeed is why a deed whose user is where it is thought to be can't be done behind others.
func (p *Part) refusesDeed(d api.Deed, ahead []api.Deed) api.Errno {
	if d.Do == api.Leave {
		seat, _ := p.seat(d.User)
		if d.Epoch-1 != seat.Epoch || d.Shard == p.shard || d.Shard >= p.shards {
			return api.ErrArg
		}
	}
	if p.locked(d.User) {
		return api.ErrBusy
	}
	clash := func(o api.Deed) bool { return o.User == d.User && (whole(o) || whole(d)) }
	if slices.ContainsFunc(ahead, clash) {
		return api.ErrArg
	}
	return api.OK
}

// whole: does a deed have a user be there, or not, as a whole?
func whole(d api.Deed) bool {
	return d.Do == api.Open || d.Do == api.Enter || d.Do == api.Leave
}

// vote is the vote on deeds that nothing but the boxes can refuse.
func (p *Part) vote(l []api.Deed) api.Vote {
	numbers, _, e := p.users.Try(l)
	if e != api.OK {
		return api.Vote{Errno: e}
	}
	v := api.Vote{Numbers: numbers}
	leaves := func(d api.Deed) bool { return d.Do == api.Leave }
	if at := slices.IndexFunc(l, leaves); at >= 0 {
		u, _ := p.users.User(l[at].User)
		v.Bytes, _ = deed.PutUser(u) // a user of a store is right
	}
	return v
}

// full: would there be too many who are there, or who left, if all that is held were done, and these deeds, too?
func (p *Part) full(more ...api.Deed) bool {
	there, gone := 0, 0
	for _, s := range p.seats {
		if s.Shard == p.shard {
			there++
		} else {
			gone++
		}
	}
	count := func(l []api.Deed) {
		for _, d := range l {
			switch d.Do {
			case api.Open, api.Enter:
				there++
			case api.Leave:
				gone++
			}
		}
	}
	for _, x := range p.held {
		count(x.Deeds)
	}
	count(more)
	return there > api.MaxFolk || gone > api.MaxGone
}

// crowded: would a fate more be too many? What is held will have one: room is kept for it.
func (p *Part) crowded() bool { return len(p.fates)+len(p.held) >= api.MaxFates }

// right: is a transaction's name right?
func right(tx api.Tx) bool {
	return tx.Node >= 0 && tx.Node <= mostNode && counts(tx.Boot) && counts(tx.N)
}

// counts: may a life, or a number in it, be n?
func counts(n int) bool { return n >= 1 && n <= api.MaxBoot }
