package rookery

import (
	"slices"

	"rookery/api"
)

// device is one that is there. Its registration tells it from all others that were or will be in the same place, even with the same key and Reg.
type device struct {
	registration int
	key          [16]byte
	reg          int
	nextCursor   int
	queue        []letter
}

// letter is one of a queue; born is the time at which its Send decided.
type letter struct {
	api.Letter
	born int
}

func (r *Rookery) lives(l letter) bool {
	return r.time-l.born < r.config.Life
}

// put puts a letter at the end of the queue. It may live no more by then: it has taken its cursor all the same.
func (d *device) put(r *Rookery, l letter) {
	l.Cursor = d.nextCursor
	d.nextCursor++
	d.queue = append(d.queue, l)
	d.dropDead(r)
}

// dropDead keeps the queue to the letters that live: time does not go back, so no one asks for the others again.
func (d *device) dropDead(r *Rookery) {
	d.queue = slices.DeleteFunc(d.queue, func(l letter) bool { return !r.lives(l) })
}

// session is a place that a connection has proved to have the key of, and the registration that was there.
type session struct {
	place
	registration int
}

// sessionDevice tells the device of a connection's session: nil, if there is no session or it is not good.
func (r *Rookery) sessionDevice(c *connection) *device {
	if c.session == nil {
		return nil
	}
	d := r.devices[c.session.place]
	if d == nil || d.registration != c.session.registration {
		return nil
	}
	return d
}
