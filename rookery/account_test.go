package rookery_test

import (
	"math"
	"testing"

	"rookery/api"
	"rookery/wire"
)

func TestRegister(t *testing.T) {
	n := connected(t, small, 3)
	n.want(0, register(1, 2, 65535), api.OK)
	n.wantDevices(0)
	n.wantDevices(1, api.Claim{Device: 2, Reg: 65535})
	n.wantDevices(2)
	n.want(0, register(1, 2, 1), api.ErrThere)
	n.want(1, register(1, 2, 65535), api.ErrThere)
	n.wantDevices(1, api.Claim{Device: 2, Reg: 65535})
	// another account's first device needs no session
	n.want(1, register(0, 0, 0), api.OK)
	n.want(0, login(0, 1, 2), api.OK)
	n.want(0, register(1, 0, 7), api.OK)
	n.want(0, register(1, 1, 7), api.OK)
	n.wantDevices(1, api.Claim{Device: 0, Reg: 7}, api.Claim{Device: 1, Reg: 7}, api.Claim{Device: 2, Reg: 65535})
	n.wantDevices(0, api.Claim{})
}

// A device's key is the one that was registered, and no other.
func TestRegisteredKey(t *testing.T) {
	n := connected(t, small, 1)
	first := register(0, 0, 1)
	n.want(0, first, api.OK)
	other := first
	other.Key[0]++
	n.want(0, other, api.ErrThere)
	q := login(0, 0, 0)
	q.Mac = wire.Mix(other.Key, nonceOf(0))
	n.want(0, q, api.ErrAuth)
	q.Mac = wire.Mix(first.Key, nonceOf(0))
	n.want(0, q, api.OK)
}

// Where an account has a device, a good session of this account is needed to add one.
func TestRegisterNeedsASession(t *testing.T) {
	n := connected(t, small, 3)
	n.settle(0, 0, 0)
	n.want(1, register(0, 1, 5), api.ErrAuth) // no session
	n.settle(1, 1, 0)
	n.want(1, register(0, 1, 5), api.ErrAuth) // one of another account
	n.wantDevices(0, api.Claim{})
	n.want(0, register(0, 1, 5), api.OK)
	n.want(2, login(2, 0, 1), api.OK)
	n.want(0, remove(1), api.OK)
	n.want(2, register(0, 1, 5), api.ErrAuth) // one that is not good
	n.want(0, register(0, 1, 5), api.OK)
	n.want(2, register(0, 2, 5), api.ErrAuth) // the device is there again, by another registration
	n.wantDevices(0, api.Claim{}, api.Claim{Device: 1, Reg: 5})
}

// The errors of a Register in their order: ErrNone, ErrThere, ErrAuth.
func TestErrorsOfRegister(t *testing.T) {
	n := connected(t, small, 2)
	n.settle(0, 0, 0)
	n.settle(0, 1, 1)
	for _, at := range [][2]int{{3, 0}, {4, 0}, {255, 0}, {0, 3}, {0, 4}, {0, 255}, {3, 3}, {255, 255}} {
		for conn := range 2 {
			n.want(conn, register(at[0], at[1], 1), api.ErrNone)
		}
	}
	n.want(1, register(0, 0, 0), api.ErrThere) // without a session
	n.want(0, register(0, 0, 0), api.ErrThere) // by a session of another account
	n.want(0, register(0, 1, 0), api.ErrAuth)
	n.want(1, register(0, 1, 0), api.ErrAuth)
}

// An account without a device takes anybody's: also whose session is of another account, or not good.
func TestRegisterOfAnEmptyAccount(t *testing.T) {
	n := connected(t, small, 2)
	n.settle(0, 0, 0)
	n.want(0, register(1, 1, 5), api.OK)
	n.want(0, remove(0), api.OK)
	n.want(0, register(2, 1, 5), api.OK)
	n.want(0, register(0, 1, 5), api.OK)
	n.want(0, register(0, 0, 5), api.ErrAuth) // a session comes by a Login alone
}

func TestLogin(t *testing.T) {
	n := connected(t, small, 2)
	n.want(0, login(0, 0, 0), api.ErrAuth) // no device is there
	n.want(0, register(0, 0, 1), api.OK)
	n.want(0, remove(0), api.ErrAuth) // a Register gives no session
	n.want(0, login(0, 0, 1), api.ErrAuth)
	n.want(0, login(1, 0, 0), api.ErrAuth) // of another nonce
	n.want(0, login(0, 0, 0), api.OK)
	n.want(1, login(0, 0, 0), api.ErrAuth)
	n.want(1, login(1, 0, 0), api.OK) // two sessions of one device
	n.want(0, register(0, 1, 1), api.OK)
	n.want(1, register(0, 2, 1), api.OK)
}

// A Mac that differs in one bit is a wrong one.
func TestWrongMacs(t *testing.T) {
	n := connected(t, small, 1)
	n.want(0, register(0, 0, 1), api.OK)
	right := login(0, 0, 0)
	for i := range right.Mac {
		for bit := range 8 {
			wrong := right
			wrong.Mac[i] ^= 1 << bit
			n.want(0, wrong, api.ErrAuth)
		}
	}
	n.want(0, api.Request{Kind: api.Login}, api.ErrAuth)
	n.want(0, remove(0), api.ErrAuth)
	n.want(0, right, api.OK)
}

// Nonces that differ in one byte give Macs of their own.
func TestNonceOfTheConnection(t *testing.T) {
	c := small
	c.Conns = 8
	n := newNest(t, c)
	for conn := range 8 {
		nonce := [8]byte{}
		nonce[conn] = 1
		if got, err := n.Connect(nonce); got != conn || err != api.OK {
			t.Fatalf("P7: Connect = %d, %d", got, err)
		}
	}
	n.want(0, register(0, 0, 1), api.OK)
	for conn := range 8 {
		for of := range 8 {
			nonce := [8]byte{}
			nonce[of] = 1
			want := api.ErrAuth
			if of == conn {
				want = api.OK
			}
			n.want(conn, api.Request{Kind: api.Login, Mac: wire.Mix(keyOf(0, 0), nonce)}, want)
		}
	}
}

func TestErrorsOfLogin(t *testing.T) {
	n := connected(t, small, 1)
	n.settle(0, 0, 0)
	for _, at := range [][2]int{{3, 0}, {255, 0}, {0, 3}, {0, 255}, {3, 3}} {
		n.want(0, login(0, at[0], at[1]), api.ErrNone)
	}
	n.want(0, login(0, 1, 0), api.ErrAuth)
	n.want(0, register(0, 1, 1), api.OK) // the session is what it was
}

// A Login takes the place of the session that was there; one that fails leaves it.
func TestSessionInPlaceOfAnother(t *testing.T) {
	n := connected(t, small, 2)
	n.settle(0, 0, 0)
	n.settle(0, 1, 0)
	n.want(0, register(0, 1, 1), api.ErrAuth)
	n.want(0, register(1, 1, 1), api.OK)
	n.want(0, login(1, 0, 0), api.ErrAuth)
	n.want(0, register(1, 2, 1), api.OK)
	n.want(0, remove(1), api.OK)
	n.wantDevices(0, api.Claim{})
	n.wantDevices(1, api.Claim{Device: 0, Reg: 10}, api.Claim{Device: 2, Reg: 1})
}

func TestRemove(t *testing.T) {
	n := connected(t, small, 2)
	n.want(0, remove(0), api.ErrAuth)
	n.settle(0, 1, 1)
	n.want(0, register(1, 2, 5), api.OK)
	n.settle(1, 0, 2)
	n.want(0, remove(0), api.ErrNone) // not there
	n.want(0, remove(3), api.ErrNone)
	n.want(0, remove(255), api.ErrNone)
	n.wantDevices(1, api.Claim{Device: 1, Reg: 11}, api.Claim{Device: 2, Reg: 5})
	n.want(0, remove(2), api.OK) // of its own account, not of the other one
	n.wantDevices(0, api.Claim{Device: 2, Reg: 2})
	n.wantDevices(1, api.Claim{Device: 1, Reg: 11})
	n.want(0, remove(2), api.ErrNone)
	n.want(0, login(0, 1, 2), api.ErrAuth)
	n.want(0, remove(1), api.OK) // itself
	n.wantDevices(1)
	n.want(0, remove(1), api.ErrAuth)
	n.want(0, remove(9), api.ErrAuth) // ahead of ErrNone
}

// askers are requests that need a good session, and would be OK by one.
func askers() []api.Request {
	return []api.Request{register(0, 2, 1), remove(0), send(1, "x"), fetch(0, 1), ack(0)}
}

// A session is good no more when its device was removed, and stays so when it is registered anew, even with the same key and Reg.
func TestSessionOfARemovedDevice(t *testing.T) {
	for _, q := range askers() {
		n := connected(t, small, 2)
		n.settle(0, 0, 0)
		n.want(0, register(0, 1, 1), api.OK)
		n.want(1, login(1, 0, 1), api.OK)
		n.want(0, remove(1), api.OK)
		n.want(1, q, api.ErrAuth)
		n.want(0, register(0, 1, 1), api.OK)
		n.want(1, q, api.ErrAuth)
		n.wantDevices(0, api.Claim{}, api.Claim{Device: 1, Reg: 1})
		n.want(1, login(1, 0, 1), api.OK)
		n.want(1, q, api.OK)
	}
}

// A request that was taken while the session was good decides by what it is then.
func TestSessionThatIsGoodNoMoreAtTheDecision(t *testing.T) {
	for _, q := range askers() {
		n := connected(t, small, 2)
		n.settle(0, 0, 0)
		n.want(0, register(0, 1, 1), api.OK)
		n.want(1, login(1, 0, 1), api.OK)
		n.ask(0, remove(1))
		n.steps(0, moved, moved)
		n.ask(1, q)
		for range 9 {
			n.Pick(1)
		}
		n.finish(0)
		n.finish(1)
		if l := n.replies(1); !sameReply(l[len(l)-1], api.Reply{Kind: q.Kind, Err: api.ErrAuth}) {
			t.Errorf("P10: the reply to %+v is %+v, want ErrAuth", q, l[len(l)-1])
		}
	}
}

func TestDevicesOfNoAccount(t *testing.T) {
	n := connected(t, small, 1)
	n.settle(0, 0, 0)
	for _, account := range []int{-1, small.Accounts, small.Accounts + 1, 255, 256, 1 << 32, math.MaxInt, math.MinInt} {
		if l, err := n.Devices(account); l != nil || err != api.ErrNone {
			t.Errorf("P11: Devices(%d) = %v, %d, want ErrNone", account, l, err)
		}
	}
}

// All replies of a connection are told, in their order, also when it is open no more.
func TestReplies(t *testing.T) {
	n := connected(t, small, 2)
	n.wantReplies(0)
	n.settle(0, 0, 0)
	n.feed(0, "\x00\x01\x00")
	n.steps(0, ended)
	n.want(0, register(0, 0, 0), api.ErrThere)
	n.want(0, remove(1), api.ErrNone)
	n.want(0, send(1, ""), api.OK)
	n.want(0, fetch(0, 0), api.OK)
	n.want(0, ack(0), api.OK)
	want := []api.Reply{
		{Kind: api.Register}, {Kind: api.Login}, {Err: api.ErrBad}, {Kind: api.Register, Err: api.ErrThere},
		{Kind: api.Remove, Err: api.ErrNone}, {Kind: api.Send}, {Kind: api.Fetch}, {Kind: api.Ack},
	}
	n.wantReplies(0, want...)
	n.wantReplies(0, want...)
	n.wantReplies(1)
	n.disconnect(0)
	n.wantReplies(0, want...)
	n.connect()
	n.wantReplies(2)
}
