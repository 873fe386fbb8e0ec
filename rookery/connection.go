package rookery

import (
	"slices"

	"rookery/api"
	"rookery/wire"
)

// connection is one that was made: what it was given, what it is doing, and its replies.
type connection struct {
	number  int
	nonce   [8]byte
	open    bool
	session *session // nil, if it has none
	rest    string
	bodies  []string
	broken  bool // a break waits behind the bodies; nothing can wait behind that
	doing   task // nil, if it does nothing
	kind    int  // of what it is doing
	toLock  []place
	replies []api.Reply
}

// connection tells the one of this number: nil, if it was never made.
func (r *Rookery) connection(number int) *connection {
	if number < 0 || number >= len(r.connections) {
		return nil
	}
	return r.connections[number]
}

// openConnection is nil too, if the connection is open no more.
func (r *Rookery) openConnection(number int) *connection {
	c := r.connection(number)
	if c == nil || !c.open {
		return nil
	}
	return c
}

func (c *connection) feed(chunk string) {
	if c.broken {
		return
	}
	bodies, rest, err := wire.Split([]string{c.rest, chunk})
	c.bodies = append(c.bodies, bodies...)
	c.rest = rest
	c.broken = err != api.OK
}

func (c *connection) isIdle() bool {
	return c.doing == nil && len(c.bodies) == 0 && !c.broken
}

// shut lets a connection be open no more; what it is doing goes on.
func (r *Rookery) shut(c *connection) {
	c.open = false
	r.open--
	c.rest, c.bodies, c.broken = "", nil, false
	c.forget()
}

// forget leaves nothing but the replies of a connection that is done with: nothing else can be asked of it.
func (c *connection) forget() {
	if !c.open && c.doing == nil {
		*c = connection{number: c.number, replies: c.replies}
	}
}

// step does one step of a connection that is not idle.
func (r *Rookery) step(c *connection) int {
	if c.doing == nil {
		if err := r.take(c); err != api.OK {
			return r.end(c, failed(err))
		}
	}
	if len(c.toLock) > 0 {
		return r.lockNext(c)
	}
	switch t := c.doing.(type) {
	case *send:
		return r.stepOfSend(c, t)
	default:
		return r.end(c, t.decide(r, c))
	}
}

// take takes the first that waits: a request, which the connection is doing from then on, or an error.
func (r *Rookery) take(c *connection) api.Errno {
	if len(c.bodies) == 0 {
		r.shut(c)
		return api.ErrFrame
	}
	request, err := wire.Decode(c.nextBody())
	if err != api.OK {
		return err
	}
	c.kind = request.Kind
	c.doing = taskOf(request)
	c.toLock = inLockOrder(c.doing.places(r, c.session))
	return api.OK
}

func (c *connection) nextBody() string {
	body := c.bodies[0]
	c.bodies[0] = "" // or the list would keep it
	c.bodies = c.bodies[1:]
	return body
}

// end ends what a connection is doing, if it is doing something, and keeps the reply.
func (r *Rookery) end(c *connection, reply api.Reply) int {
	reply.Kind = c.kind
	c.replies = append(c.replies, reply)
	r.giveUpLocks(c)
	c.doing, c.kind, c.toLock = nil, 0, nil
	c.forget()
	return api.Ended
}

// copyReplies copies the lists within the replies too.
func copyReplies(replies []api.Reply) []api.Reply {
	copied := slices.Clone(replies)
	for i := range copied {
		reply := &copied[i]
		reply.Missing = slices.Clone(reply.Missing)
		reply.Extra = slices.Clone(reply.Extra)
		reply.Stale = slices.Clone(reply.Stale)
		reply.Letters = slices.Clone(reply.Letters)
	}
	return copied
}
