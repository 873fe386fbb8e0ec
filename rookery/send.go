package rookery

import "rookery/api"

// send decides first, and then brings its letter to one device a step.
type send struct {
	account int
	claims  []api.Claim // when it has decided: those whose devices do not have the letter yet
	text    string
	letter  *letter // nil, until it has decided
}

func (t *send) places(r *Rookery, s *session) []place {
	if s == nil {
		return nil
	}
	return append(r.placesOf(t.account), s.place)
}

// stepOfSend is the step of a Send that has all its locks; they stay until the last device has the letter, so that no one sees it in some queues only.
func (r *Rookery) stepOfSend(c *connection, t *send) int {
	if t.letter != nil {
		t.bring(r)
	} else if reply := t.decide(r, c); reply.Err != api.OK {
		return r.end(c, reply)
	}
	if len(t.claims) > 0 {
		return api.Moved
	}
	return r.end(c, api.Reply{})
}

func (t *send) decide(r *Rookery, c *connection) api.Reply {
	if r.sessionDevice(c) == nil {
		return failed(api.ErrAuth)
	}
	if !r.hasAccount(t.account) {
		return failed(api.ErrNone)
	}
	if reply := t.compareClaims(r); reply.Err != api.OK {
		return reply
	}
	if err := t.findRoom(r); err != api.OK {
		return failed(err)
	}
	from := c.session.place
	t.letter = &letter{Letter: api.Letter{Account: from.account, Device: from.device, Text: t.text}, born: r.time}
	return api.Reply{}
}

// compareClaims holds the claims against the devices that are there.
func (t *send) compareClaims(r *Rookery) api.Reply {
	var reply api.Reply
	there := r.devicesOf(t.account)
	for _, claim := range t.claims {
		if reg, isThere := regOf(there, claim.Device); !isThere {
			reply.Extra = append(reply.Extra, claim.Device)
		} else if reg != claim.Reg {
			reply.Stale = append(reply.Stale, claim.Device)
		}
	}
	for _, d := range there {
		if _, isClaimed := regOf(t.claims, d.Device); !isClaimed {
			reply.Missing = append(reply.Missing, d.Device)
		}
	}
	if len(reply.Missing)+len(reply.Extra)+len(reply.Stale) > 0 {
		reply.Err = api.ErrMismatch
	}
	return reply
}

func regOf(claims []api.Claim, device int) (int, bool) {
	for _, c := range claims {
		if c.Device == device {
			return c.Reg, true
		}
	}
	return 0, false
}

// findRoom asks all devices for a cursor ahead of asking any for room: a spent one is told first, wherever it stands.
func (t *send) findRoom(r *Rookery) api.Errno {
	for _, claim := range t.claims {
		if t.deviceOf(r, claim).nextCursor > r.config.Cursors {
			return api.ErrSpent
		}
	}
	for _, claim := range t.claims {
		if len(t.deviceOf(r, claim).queue) >= r.config.Queue {
			return api.ErrQuota
		}
	}
	return api.OK
}

func (t *send) deviceOf(r *Rookery, claim api.Claim) *device {
	return r.devices[place{t.account, claim.Device}]
}

// bring puts the letter into the queue of the next device that does not have it.
func (t *send) bring(r *Rookery) {
	t.deviceOf(r, t.claims[0]).put(r, *t.letter)
	t.claims = t.claims[1:]
}
