package rookery

import (
	"slices"

	"rookery/api"
	"rookery/wire"
)

// task is what a connection does: a request, of a type of its own for each kind.
type task interface {
	// places tells which it locks, in whatever order; the session is the one that the connection has when the request is taken, or nil.
	places(r *Rookery, s *session) []place
	// decide does what the request asks for, when all of them are locked.
	decide(r *Rookery, c *connection) api.Reply
}

// taskOf tells the task of a request that may be.
func taskOf(q api.Request) task {
	switch q.Kind {
	case api.Register:
		return &register{at: place{q.Account, q.Device}, key: q.Key, reg: q.Reg}
	case api.Login:
		return &login{at: place{q.Account, q.Device}, mac: q.Mac}
	case api.Remove:
		return &remove{device: q.Device}
	case api.Send:
		return &send{account: q.Account, claims: q.Claims, text: q.Text}
	case api.Fetch:
		return &fetch{from: q.Cursor, most: q.Most}
	default:
		return &ack{upTo: q.Cursor}
	}
}

func failed(err api.Errno) api.Reply {
	return api.Reply{Err: err}
}

// ownPlace tells the place of a session.
func ownPlace(s *session) []place {
	if s == nil {
		return nil
	}
	return []place{s.place}
}

type register struct {
	at  place
	key [16]byte
	reg int
}

func (t *register) places(r *Rookery, s *session) []place {
	return r.placesOf(t.at.account)
}

func (t *register) decide(r *Rookery, c *connection) api.Reply {
	if !r.hasPlace(t.at) {
		return failed(api.ErrNone)
	}
	if r.devices[t.at] != nil {
		return failed(api.ErrThere)
	}
	if len(r.devicesOf(t.at.account)) > 0 && !t.allowed(r, c) {
		return failed(api.ErrAuth)
	}
	r.registrations++
	r.devices[t.at] = &device{registration: r.registrations, key: t.key, reg: t.reg, nextCursor: 1}
	return api.Reply{}
}

// allowed tells whether the connection may add a device to those of the account.
func (t *register) allowed(r *Rookery, c *connection) bool {
	return r.sessionDevice(c) != nil && c.session.account == t.at.account
}

type login struct {
	at  place
	mac [8]byte
}

func (t *login) places(r *Rookery, s *session) []place {
	if !r.hasPlace(t.at) {
		return nil
	}
	return []place{t.at}
}

func (t *login) decide(r *Rookery, c *connection) api.Reply {
	if !r.hasPlace(t.at) {
		return failed(api.ErrNone)
	}
	d := r.devices[t.at]
	if d == nil || t.mac != wire.Mix(d.key, c.nonce) {
		return failed(api.ErrAuth)
	}
	c.session = &session{place: t.at, registration: d.registration}
	return api.Reply{}
}

type remove struct {
	device int
}

func (t *remove) places(r *Rookery, s *session) []place {
	if s == nil {
		return nil
	}
	return r.placesOf(s.account)
}

func (t *remove) decide(r *Rookery, c *connection) api.Reply {
	if r.sessionDevice(c) == nil {
		return failed(api.ErrAuth)
	}
	at := place{c.session.account, t.device}
	if r.devices[at] == nil {
		return failed(api.ErrNone)
	}
	delete(r.devices, at)
	return api.Reply{}
}

type fetch struct {
	from, most int
}

func (t *fetch) places(r *Rookery, s *session) []place {
	return ownPlace(s)
}

func (t *fetch) decide(r *Rookery, c *connection) api.Reply {
	d := r.sessionDevice(c)
	if d == nil {
		return failed(api.ErrAuth)
	}
	var reply api.Reply
	for _, l := range d.queue {
		if l.Cursor < t.from {
			continue
		}
		if len(reply.Letters) == t.most {
			reply.More = true
			break
		}
		reply.Letters = append(reply.Letters, l.Letter)
	}
	return reply
}

type ack struct {
	upTo int
}

func (t *ack) places(r *Rookery, s *session) []place {
	return ownPlace(s)
}

func (t *ack) decide(r *Rookery, c *connection) api.Reply {
	d := r.sessionDevice(c)
	if d == nil {
		return failed(api.ErrAuth)
	}
	d.queue = slices.DeleteFunc(d.queue, func(l letter) bool { return l.Cursor <= t.upTo })
	return api.Reply{}
}
