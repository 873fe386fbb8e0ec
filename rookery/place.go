package rookery

import (
	"cmp"
	"slices"

	"rookery/api"
)

// place is where a device may be; it is locked whether one is there or not.
type place struct {
	account, device int
}

func comparePlaces(a, b place) int {
	return cmp.Or(cmp.Compare(a.account, b.account), cmp.Compare(a.device, b.device))
}

func (r *Rookery) hasAccount(account int) bool {
	return 0 <= account && account < r.config.Accounts
}

func (r *Rookery) hasPlace(p place) bool {
	return r.hasAccount(p.account) && 0 <= p.device && p.device < r.config.Devices
}

// placesOf tells the places of an account, by rising devices: none, if there is no such account.
func (r *Rookery) placesOf(account int) []place {
	if !r.hasAccount(account) {
		return nil
	}
	var places []place
	for device := range r.config.Devices {
		places = append(places, place{account, device})
	}
	return places
}

// devicesOf tells which devices of an account are there, by rising numbers.
func (r *Rookery) devicesOf(account int) []api.Claim {
	var there []api.Claim
	for _, p := range r.placesOf(account) {
		if d := r.devices[p]; d != nil {
			there = append(there, api.Claim{Device: p.device, Reg: d.reg})
		}
	}
	return there
}

// inLockOrder puts places into the order in which all connections lock them, so that no two wait for each other; each once, since a connection would wait for its own lock too.
func inLockOrder(places []place) []place {
	slices.SortFunc(places, comparePlaces)
	return slices.Compact(places)
}

// lockNext locks the next place that a connection still has to lock.
func (r *Rookery) lockNext(c *connection) int {
	next := c.toLock[0]
	if _, locked := r.locks[next]; locked {
		return api.Blocked
	}
	r.locks[next] = c.number
	c.toLock = c.toLock[1:]
	return api.Moved
}

func (r *Rookery) giveUpLocks(c *connection) {
	for p, conn := range r.locks {
		if conn == c.number {
			delete(r.locks, p)
		}
	}
}
