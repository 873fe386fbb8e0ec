package rookery_test

import (
	"reflect"
	"slices"
	"testing"

	"rookery/api"
	"rookery/rookery"
	"rookery/wire"
)

const (
	moved   = api.Moved
	blocked = api.Blocked
	ended   = api.Ended
)

// small is a configuration in which every bound is near.
var small = api.Config{Accounts: 3, Devices: 3, Queue: 3, Conns: 5, Life: 4, Cursors: 100}

// nest is a rookery under test.
type nest struct {
	*rookery.Rookery
	t     *testing.T
	conns int // that were made
}

func newNest(t *testing.T, c api.Config) *nest {
	t.Helper()
	r, err := rookery.New(c)
	if r == nil || err != api.OK {
		t.Fatalf("P6: New(%+v) = %v, %d, want a rookery", c, r, err)
	}
	return &nest{Rookery: r, t: t}
}

// connected is a nest with so many connections.
func connected(t *testing.T, c api.Config, conns int) *nest {
	t.Helper()
	n := newNest(t, c)
	for range conns {
		n.connect()
	}
	return n
}

// nonceOf is the nonce of a connection of a nest: no two have the same.
func nonceOf(conn int) [8]byte { return [8]byte{byte(conn), byte(conn >> 8), 40, 50} }

func (n *nest) connect() int {
	n.t.Helper()
	conn, err := n.Connect(nonceOf(n.conns))
	if conn != n.conns || err != api.OK {
		n.t.Fatalf("P7: Connect = %d, %d, want %d", conn, err, n.conns)
	}
	n.conns++
	return conn
}

func (n *nest) feed(conn int, chunk string) {
	n.t.Helper()
	if err := n.Feed(conn, chunk); err != api.OK {
		n.t.Fatalf("P7: Feed(%d, %q) = %d, want OK", conn, chunk, err)
	}
}

func (n *nest) disconnect(conn int) {
	n.t.Helper()
	if err := n.Disconnect(conn); err != api.OK {
		n.t.Fatalf("P7: Disconnect(%d) = %d, want OK", conn, err)
	}
}

func frame(t *testing.T, q api.Request) string {
	t.Helper()
	s, err := wire.Encode(q)
	if err != api.OK {
		t.Fatalf("P4: Encode(%+v) = %d", q, err)
	}
	return s
}

// ask feeds requests, and picks nothing.
func (n *nest) ask(conn int, requests ...api.Request) {
	n.t.Helper()
	for _, q := range requests {
		n.feed(conn, frame(n.t, q))
	}
}

// steps picks a connection, and asks for what each pick comes to.
func (n *nest) steps(conn int, want ...int) {
	n.t.Helper()
	for i, w := range want {
		if got, err := n.Pick(conn); got != w || err != api.OK {
			n.t.Fatalf("P8, P9: Pick(%d), number %d, = %d, %d, want %d", conn, i, got, err, w)
		}
	}
}

func (n *nest) wantPick(conn int, want api.Errno) {
	n.t.Helper()
	if got, err := n.Pick(conn); got != 0 || err != want {
		n.t.Fatalf("P8: Pick(%d) = %d, %d, want 0, %d", conn, got, err, want)
	}
}

func (n *nest) wantIdle(conn int) {
	n.t.Helper()
	n.wantPick(conn, api.ErrIdle)
}

func (n *nest) replies(conn int) []api.Reply {
	n.t.Helper()
	l, err := n.Replies(conn)
	if err != api.OK {
		n.t.Fatalf("P11: Replies(%d) = %d, want OK", conn, err)
	}
	return l
}

// plain lets a list without elements be nil, so that replies can be held against each other.
func plain(r api.Reply) api.Reply {
	if len(r.Missing) == 0 {
		r.Missing = nil
	}
	if len(r.Extra) == 0 {
		r.Extra = nil
	}
	if len(r.Stale) == 0 {
		r.Stale = nil
	}
	if len(r.Letters) == 0 {
		r.Letters = nil
	}
	return r
}

func sameReply(a, b api.Reply) bool { return reflect.DeepEqual(plain(a), plain(b)) }

func (n *nest) wantReplies(conn int, want ...api.Reply) {
	n.t.Helper()
	if got := n.replies(conn); !slices.EqualFunc(got, want, sameReply) {
		n.t.Fatalf("P10, P11: Replies(%d) = %+v, want %+v", conn, got, want)
	}
}

// serve feeds a request, and picks until it has ended: the reply.
func (n *nest) serve(conn int, q api.Request) api.Reply {
	n.t.Helper()
	before := len(n.replies(conn))
	n.ask(conn, q)
	n.finish(conn)
	after := n.replies(conn)
	if len(after) != before+1 {
		n.t.Fatalf("P9, P11: %d replies, and %d when %+v has ended", before, len(after), q)
	}
	return after[before]
}

// finish picks a connection until what it does has ended.
func (n *nest) finish(conn int) {
	n.t.Helper()
	for range 100 {
		got, err := n.Pick(conn)
		if err != api.OK || got == blocked {
			n.t.Fatalf("P8, P9: Pick(%d) = %d, %d, want Moved or Ended", conn, got, err)
		}
		if got == ended {
			return
		}
	}
	n.t.Fatalf("P9: the connection %d is picked 100 times, and has not ended", conn)
}

// wantServed asks that the whole reply is this one, which need not name the kind.
func (n *nest) wantServed(conn int, q api.Request, want api.Reply) {
	n.t.Helper()
	want.Kind = q.Kind
	if got := n.serve(conn, q); !sameReply(got, want) {
		n.t.Fatalf("P10: the reply to %+v is %+v, want %+v", q, got, want)
	}
}

// want serves a request, whose reply is an error (or OK) and nothing else.
func (n *nest) want(conn int, q api.Request, err api.Errno) {
	n.t.Helper()
	n.wantServed(conn, q, api.Reply{Err: err})
}

func (n *nest) wantLocks(want ...api.Lock) {
	n.t.Helper()
	if got := n.Locks(); !slices.Equal(got, want) {
		n.t.Fatalf("P9, P11: Locks = %v, want %v", got, want)
	}
}

func (n *nest) wantDevices(account int, want ...api.Claim) {
	n.t.Helper()
	if got, err := n.Devices(account); !slices.Equal(got, want) || err != api.OK {
		n.t.Fatalf("P11: Devices(%d) = %v, %d, want %v", account, got, err, want)
	}
}

// seen is all that the calls tell of a rookery.
type seen struct {
	locks   []api.Lock
	devices [][]api.Claim
	replies [][]api.Reply
}

func (n *nest) look() seen {
	n.t.Helper()
	s := seen{locks: n.Locks()}
	for account := range api.MaxAccounts {
		l, _ := n.Devices(account)
		s.devices = append(s.devices, l)
	}
	for conn := range n.conns {
		s.replies = append(s.replies, n.replies(conn))
	}
	return s
}

func (n *nest) wantSame(before seen) {
	n.t.Helper()
	if after := n.look(); !reflect.DeepEqual(before, after) {
		n.t.Fatalf("P1: nothing is to be changed, but it was %+v, and is %+v", before, after)
	}
}

// keyOf is the key of a device, if a test does not choose another one.
func keyOf(account, device int) [16]byte {
	return [16]byte{byte(account), 60, byte(device), 70, 15: byte(1 + account + device)}
}

func register(account, device, reg int) api.Request {
	return api.Request{Kind: api.Register, Account: account, Device: device, Key: keyOf(account, device), Reg: reg}
}

func login(conn, account, device int) api.Request {
	return api.Request{Kind: api.Login, Account: account, Device: device, Mac: wire.Mix(keyOf(account, device), nonceOf(conn))}
}

func remove(device int) api.Request { return api.Request{Kind: api.Remove, Device: device} }

func send(account int, text string, claims ...api.Claim) api.Request {
	return api.Request{Kind: api.Send, Account: account, Claims: claims, Text: text}
}

func fetch(cursor, most int) api.Request {
	return api.Request{Kind: api.Fetch, Cursor: cursor, Most: most}
}

func ack(cursor int) api.Request { return api.Request{Kind: api.Ack, Cursor: cursor} }

// settle registers a device, under the number 10 * account + device, and logs the connection in as this device.
func (n *nest) settle(conn, account, device int) {
	n.t.Helper()
	n.want(conn, register(account, device, 10*account+device), api.OK)
	n.want(conn, login(conn, account, device), api.OK)
}
