package rookery_test

import (
	"slices"
	"testing"

	"rookery/api"
)

// lockedBy tells locks of one connection: accounts and devices, by turns.
func lockedBy(conn int, at ...int) []api.Lock {
	var locks []api.Lock
	for i := 0; i < len(at); i += 2 {
		locks = append(locks, api.Lock{Account: at[i], Device: at[i+1], Conn: conn})
	}
	return locks
}

// wantLocking asks a request, which locks these places one a step, and then decides.
func (n *nest) wantLocking(conn int, q api.Request, at ...int) {
	n.t.Helper()
	n.wantLocks()
	n.ask(conn, q)
	for i := 2; i <= len(at); i += 2 {
		before := n.replies(conn)
		n.steps(conn, moved)
		n.wantLocks(lockedBy(conn, at[:i]...)...)
		if after := n.replies(conn); len(after) != len(before) {
			n.t.Fatalf("P9: a step that locks has the reply %+v", after[len(before):])
		}
	}
	n.steps(conn, ended)
	n.wantLocks()
	n.wantIdle(conn)
}

func TestPlacesThatAreLocked(t *testing.T) {
	n := connected(t, small, 3)
	account1 := []int{1, 0, 1, 1, 1, 2}
	for _, device := range []int{0, 2, 3, 255} { // also of a device that there is none of
		n.wantLocking(0, register(1, device, 5), account1...)
	}
	n.wantLocking(0, register(3, 0, 5))
	n.wantLocking(0, register(255, 255, 5))
	n.wantLocking(0, login(0, 1, 2), 1, 2)
	n.wantLocking(0, login(0, 2, 0), 2, 0) // no device is there
	n.wantLocking(0, login(0, 1, 3))
	n.wantLocking(0, login(0, 3, 1))
	n.wantLocking(0, login(0, 255, 255))
	for _, q := range []api.Request{remove(0), send(1, "x"), fetch(1, 1), ack(1)} {
		n.wantLocking(1, q) // without a session
	}
	n.want(0, login(0, 1, 0), api.OK)
	n.wantLocking(0, remove(2), account1...)
	n.wantLocking(0, remove(3), account1...)
	n.wantLocking(0, fetch(1, 1), 1, 0)
	n.wantLocking(0, ack(1), 1, 0)
}

// A Send locks the session's device in its place among those of the account, and once.
func TestPlacesThatASendLocks(t *testing.T) {
	n := connected(t, small, 3)
	n.settle(0, 1, 1)
	wrong := api.Claim{Device: 9}
	n.wantLocking(0, send(0, "x", wrong), 0, 0, 0, 1, 0, 2, 1, 1)
	n.wantLocking(0, send(1, "x", wrong), 1, 0, 1, 1, 1, 2)
	n.wantLocking(0, send(2, "x", wrong), 1, 1, 2, 0, 2, 1, 2, 2)
	n.wantLocking(0, send(3, "x", wrong), 1, 1)
	n.wantLocking(0, send(255, "x", wrong), 1, 1)
}

// A session that is not good is a session: its places are locked.
func TestPlacesOfASessionThatIsNotGood(t *testing.T) {
	n := connected(t, small, 2)
	n.settle(0, 1, 1)
	n.want(0, remove(1), api.OK)
	n.wantLocking(0, remove(0), 1, 0, 1, 1, 1, 2)
	n.wantLocking(0, send(0, "x"), 0, 0, 0, 1, 0, 2, 1, 1)
	n.wantLocking(0, fetch(1, 1), 1, 1)
	n.wantLocking(0, ack(1), 1, 1)
	for _, reply := range n.replies(0)[3:] {
		if reply.Err != api.ErrAuth {
			t.Errorf("P10: of a session that is not good: %+v, want ErrAuth", reply)
		}
	}
}

// The places are those of the session that there is when the request is taken, not of the one when it was fed.
func TestPlacesWhenTheRequestIsTaken(t *testing.T) {
	n := connected(t, small, 2)
	n.settle(1, 2, 2)
	n.settle(0, 0, 0)
	n.ask(0, api.Request{Kind: api.Login, Account: 2, Device: 2, Mac: login(0, 2, 2).Mac}, fetch(1, 1))
	n.steps(0, moved, ended, moved)
	n.wantLocks(lockedBy(0, 2, 2)...)
	n.steps(0, ended)
}

func TestLockOfAnother(t *testing.T) {
	n := connected(t, small, 4)
	n.settle(0, 0, 1)
	n.ask(0, fetch(1, 1))
	n.steps(0, moved)
	n.ask(1, register(0, 0, 3))
	n.steps(1, moved) // (0, 0) is free
	held := append(lockedBy(1, 0, 0), lockedBy(0, 0, 1)...)
	before := n.look()
	n.steps(1, blocked, blocked, blocked)
	n.wantSame(before)
	n.wantLocks(held...)
	// a third is blocked by the one that is blocked; a place that nobody has is free
	n.ask(2, login(2, 0, 0))
	n.steps(2, blocked)
	n.ask(3, login(3, 0, 2))
	n.steps(3, moved)
	n.steps(0, ended)
	n.wantLocks(append(lockedBy(1, 0, 0), lockedBy(3, 0, 2)...)...)
	n.steps(1, moved, blocked)
	n.steps(3, ended)
	n.steps(2, blocked)
	n.steps(1, moved, ended)
	n.steps(2, moved, ended)
	n.wantLocks()
	n.wantReplies(1, api.Reply{Kind: api.Register, Err: api.ErrAuth})
}

// Of those that wait for a lock, the one that is picked first when it is free has it.
func TestWhoIsPickedFirst(t *testing.T) {
	n := connected(t, small, 3)
	n.ask(0, login(0, 1, 1))
	n.steps(0, moved)
	for _, conn := range []int{1, 2} {
		n.ask(conn, login(conn, 1, 1))
		n.steps(conn, blocked)
	}
	n.steps(0, ended)
	n.steps(2, moved)
	n.steps(1, blocked)
	n.wantLocks(lockedBy(2, 1, 1)...)
	n.steps(2, ended)
	n.steps(1, moved, ended)
}

// One that ends gives up its own locks, and no others.
func TestLocksOfOthersStay(t *testing.T) {
	n := connected(t, small, 3)
	n.ask(0, login(0, 0, 2))
	n.ask(1, register(1, 0, 1))
	n.ask(2, login(2, 2, 0))
	n.steps(2, moved)
	n.steps(0, moved)
	n.steps(1, moved, moved, moved)
	n.wantLocks(slices.Concat(lockedBy(0, 0, 2), lockedBy(1, 1, 0, 1, 1, 1, 2), lockedBy(2, 2, 0))...)
	n.steps(1, ended)
	n.wantLocks(slices.Concat(lockedBy(0, 0, 2), lockedBy(2, 2, 0))...)
	n.steps(0, ended)
	n.wantLocks(lockedBy(2, 2, 0)...)
}

// What is decided is what is there in the deciding step, not what was there when the request was taken.
func TestDecidedWhenAllIsLocked(t *testing.T) {
	n := connected(t, small, 2)
	n.ask(0, register(0, 2, 1))
	n.ask(1, register(0, 2, 2))
	n.steps(1, moved)
	n.steps(0, blocked)
	n.wantDevices(0)
	n.steps(1, moved, moved)
	n.wantDevices(0)
	n.steps(1, ended)
	n.wantDevices(0, api.Claim{Device: 2, Reg: 2})
	n.steps(0, moved, moved, moved, ended)
	n.wantReplies(0, api.Reply{Kind: api.Register, Err: api.ErrThere})
}

// Example 3 of the document.
func TestStepsOfTheDocument(t *testing.T) {
	c := small
	c.Accounts, c.Devices = 2, 2
	n := connected(t, c, 2)
	for conn := range 2 {
		n.ask(conn, register(conn, conn, 5), login(conn, conn, conn))
		n.steps(conn, moved, moved, ended)
		n.steps(conn, moved, ended)
		n.wantIdle(conn)
	}
}

// Examples 4 and 5.
func TestSendOfTheDocument(t *testing.T) {
	c := small
	c.Accounts, c.Devices = 2, 2
	n := connected(t, c, 2)
	n.settle(0, 0, 0)
	n.settle(1, 1, 1)
	n.ask(0, send(1, "hi", api.Claim{Device: 1, Reg: 11}))
	n.steps(0, moved, moved, moved)
	n.ask(1, fetch(0, 9))
	n.steps(1, blocked)
	n.steps(0, moved)
	n.steps(1, blocked)
	n.steps(0, ended)
	n.steps(1, moved, ended)
	letters := []api.Letter{{Cursor: 1, Account: 0, Device: 0, Text: "hi"}}
	n.wantReplies(1, api.Reply{Kind: api.Register}, api.Reply{Kind: api.Login}, api.Reply{Kind: api.Fetch, Letters: letters})
	n.want(1, register(1, 0, 3), api.OK)
	n.wantServed(0, send(1, "hi", api.Claim{Device: 1, Reg: 11}), api.Reply{Err: api.ErrMismatch, Missing: []int{0}})
}

// A Send that is OK has a step for each claim, and its locks until the last one; only then there is a reply.
func TestStepsOfASend(t *testing.T) {
	n := connected(t, small, 2)
	n.settle(0, 0, 0)
	var claims []api.Claim
	for device := range small.Devices {
		n.ask(0, send(1, "caw", claims...))
		n.steps(0, moved, moved, moved, moved) // locks
		all := lockedBy(0, 0, 0, 1, 0, 1, 1, 1, 2)
		before := len(n.replies(0))
		for range claims {
			n.steps(0, moved)
			n.wantLocks(all...)
			if len(n.replies(0)) != before {
				t.Fatalf("P9: a Send with %d claims has a reply ahead of its last step", device)
			}
		}
		n.steps(0, ended)
		n.wantLocks()
		n.wantIdle(0)
		if l := n.replies(0); len(l) != before+1 || !sameReply(l[before], api.Reply{Kind: api.Send}) {
			t.Fatalf("P9: the replies of a Send with %d claims: %+v", device, l[before:])
		}
		if device == 0 {
			n.settle(1, 1, 0)
		} else {
			n.want(1, register(1, device, 10+device), api.OK)
		}
		claims = append(claims, api.Claim{Device: device, Reg: 10 + device})
	}
}

// A Send goes on when its connection is open no more.
func TestSendGoesOn(t *testing.T) {
	n := connected(t, small, 3)
	n.settle(0, 0, 0)
	n.settle(1, 1, 1)
	n.ask(0, send(1, "caw", api.Claim{Device: 1, Reg: 11}), fetch(0, 1))
	n.steps(0, moved, moved, moved, moved, moved)
	n.disconnect(0)
	n.steps(0, ended)
	n.wantIdle(0)
	n.wantServed(1, fetch(0, 9), api.Reply{Letters: []api.Letter{{Cursor: 1, Text: "caw"}}})
}
