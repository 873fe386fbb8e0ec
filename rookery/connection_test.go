package rookery_test

import (
	"math"
	"strings"
	"testing"

	"rookery/api"
	"rookery/rookery"
)

// setting is a part of a configuration, and the greatest that it may be.
type setting struct {
	name string
	at   *int
	most int
}

func settings(c *api.Config) []setting {
	return []setting{
		{"Accounts", &c.Accounts, api.MaxAccounts},
		{"Devices", &c.Devices, api.MaxDevices},
		{"Queue", &c.Queue, api.MaxQueue},
		{"Conns", &c.Conns, api.MaxConns},
		{"Life", &c.Life, api.MaxLife},
		{"Cursors", &c.Cursors, api.MaxCursors},
	}
}

func TestSettings(t *testing.T) {
	c := small
	for _, s := range settings(&c) {
		kept := *s.at
		for _, n := range []int{1, 2, s.most - 1, s.most} {
			*s.at = n
			if r, err := rookery.New(c); r == nil || err != api.OK {
				t.Errorf("P6: New with %s %d = %v, %d, want a rookery", s.name, n, r, err)
			}
		}
		for _, n := range []int{0, -1, s.most + 1, 2 * s.most, s.most + 256, s.most + 1<<32, math.MaxInt, math.MinInt} {
			*s.at = n
			if r, err := rookery.New(c); r != nil || err != api.ErrConfig {
				t.Errorf("P6: New with %s %d = %v, %d, want ErrConfig", s.name, n, r, err)
			}
		}
		*s.at = kept
	}
	if r, err := rookery.New(api.Config{}); r != nil || err != api.ErrConfig {
		t.Errorf("P6: New of no settings = %v, %d", r, err)
	}
}

func TestNewRookeryIsEmpty(t *testing.T) {
	n := newNest(t, small)
	n.wantLocks()
	for account := range small.Accounts {
		n.wantDevices(account)
	}
	n.wantPick(0, api.ErrConn)
}

// The greatest and the least rookery hold just the accounts and devices that they were made for.
func TestSizes(t *testing.T) {
	for _, c := range []api.Config{
		{Accounts: 1, Devices: 1, Queue: 1, Conns: 1, Life: 1, Cursors: 1},
		{Accounts: api.MaxAccounts, Devices: api.MaxDevices, Queue: api.MaxQueue, Conns: api.MaxConns, Life: api.MaxLife, Cursors: api.MaxCursors},
		{Accounts: api.MaxAccounts, Devices: 1, Queue: 1, Conns: 1, Life: 1, Cursors: 1},
		{Accounts: 1, Devices: api.MaxDevices, Queue: 1, Conns: 1, Life: 1, Cursors: 1},
	} {
		n := connected(t, c, 1)
		for account := range c.Accounts {
			n.settle(0, account, 0)
			for device := 1; device < c.Devices; device++ {
				n.want(0, register(account, device, device), api.OK)
			}
			n.want(0, register(account, c.Devices, 1), api.ErrNone)
		}
		n.want(0, register(c.Accounts, 0, 1), api.ErrNone)
		n.want(0, login(0, c.Accounts, 0), api.ErrNone)
		n.want(0, login(0, 0, c.Devices), api.ErrNone)
	}
}

// wantNever asks that no call knows the connection.
func (n *nest) wantNever(conn int) {
	n.t.Helper()
	n.wantShut(conn)
	n.wantPick(conn, api.ErrConn)
	if l, err := n.Replies(conn); l != nil || err != api.ErrConn {
		n.t.Errorf("P11: Replies(%d) = %v, %d, want ErrConn", conn, l, err)
	}
}

// wantShut asks that the connection is not open.
func (n *nest) wantShut(conn int) {
	n.t.Helper()
	if err := n.Feed(conn, "\x00\x02\x03\x00"); err != api.ErrConn {
		n.t.Errorf("P7: Feed(%d) = %d, want ErrConn", conn, err)
	}
	if err := n.Feed(conn, ""); err != api.ErrConn {
		n.t.Errorf("P7: Feed(%d) of nothing = %d, want ErrConn", conn, err)
	}
	if err := n.Disconnect(conn); err != api.ErrConn {
		n.t.Errorf("P7: Disconnect(%d) = %d, want ErrConn", conn, err)
	}
}

func TestConnectionsThatWereNeverMade(t *testing.T) {
	n := newNest(t, small)
	n.wantNever(0)
	n.connect()
	n.connect()
	n.ask(0, register(0, 0, 1))
	n.steps(0, moved)
	before := n.look()
	for _, conn := range []int{-1, 2, 3, 5, 256, 1 << 32, math.MaxInt, math.MinInt} {
		n.wantNever(conn)
	}
	n.wantSame(before)
	n.steps(0, moved, moved, ended)
	n.wantIdle(1)
}

func (n *nest) wantFull() {
	n.t.Helper()
	if conn, err := n.Connect(nonceOf(9)); conn != 0 || err != api.ErrFull {
		n.t.Errorf("P7: Connect = %d, %d, want 0, ErrFull", conn, err)
	}
}

func TestTheLastConnectionThatMayBeOpen(t *testing.T) {
	for conns := 1; conns <= api.MaxConns; conns++ {
		c := small
		c.Conns = conns
		n := connected(t, c, conns)
		n.wantFull()
		n.wantNever(conns)
		n.disconnect(conns / 2)
		n.connect() // of a number that none had
		n.wantFull()
		n.wantShut(conns / 2)
		n.disconnect(conns)
		n.connect()
		n.wantFull()
	}
}

func TestManyConnections(t *testing.T) {
	c := small
	c.Conns = 1
	n := newNest(t, c)
	for conn := range 300 {
		n.connect()
		n.want(conn, remove(0), api.ErrAuth)
		n.disconnect(conn)
	}
	for conn := range 300 {
		n.wantReplies(conn, api.Reply{Kind: api.Remove, Err: api.ErrAuth})
		n.wantIdle(conn)
		n.wantShut(conn)
	}
}

func TestDisconnect(t *testing.T) {
	n := connected(t, small, 2)
	n.ask(0, remove(0))
	n.feed(0, "\x00\x02\x03") // a rest
	n.disconnect(0)
	n.wantIdle(0)
	n.wantReplies(0)
	n.wantShut(0)
	// a break that waits is dropped too
	n.feed(1, "\x00\x00")
	n.disconnect(1)
	n.wantIdle(1)
	n.wantReplies(1)
}

// What a connection does goes on when it is open no more, a session with it; what waits is dropped.
func TestDisconnectWhileSomethingIsDone(t *testing.T) {
	n := connected(t, small, 2)
	n.settle(0, 0, 0)
	n.ask(0, register(0, 1, 7), remove(0))
	n.feed(0, "\x00\x02\x03")
	n.steps(0, moved, moved)
	n.disconnect(0)
	n.wantShut(0)
	n.wantLocks(api.Lock{Account: 0, Device: 0, Conn: 0}, api.Lock{Account: 0, Device: 1, Conn: 0})
	n.ask(1, login(1, 0, 0))
	n.steps(1, blocked)
	n.steps(0, moved, ended)
	n.wantLocks()
	n.wantIdle(0)
	n.wantDevices(0, api.Claim{Device: 0}, api.Claim{Device: 1, Reg: 7})
	n.wantReplies(0, api.Reply{Kind: api.Register}, api.Reply{Kind: api.Login}, api.Reply{Kind: api.Register})
	n.steps(1, moved, ended)
}

// A request that is blocked has been taken: it is what the connection does, and does not wait any more.
func TestDisconnectWhileBlocked(t *testing.T) {
	n := connected(t, small, 2)
	n.ask(0, register(1, 0, 1))
	n.steps(0, moved)
	n.ask(1, register(1, 1, 2), register(2, 1, 2))
	n.steps(1, blocked)
	n.disconnect(1)
	n.steps(1, blocked, blocked)
	n.steps(0, moved, moved, ended)
	n.steps(1, moved, moved, moved, ended)
	n.wantReplies(1, api.Reply{Kind: api.Register, Err: api.ErrAuth})
	n.wantIdle(1)
	n.wantDevices(2)
}

// A Login may be what goes on; a connection that is open no more counts no more, whatever it does.
func TestConnectBesideOneThatGoesOn(t *testing.T) {
	c := small
	c.Conns = 1
	n := connected(t, c, 1)
	n.settle(0, 0, 0)
	n.ask(0, login(0, 0, 0))
	n.steps(0, moved)
	n.disconnect(0)
	n.connect()
	n.wantFull()
	n.steps(0, ended)
	n.wantFull()
	n.wantReplies(0, api.Reply{Kind: api.Register}, api.Reply{Kind: api.Login}, api.Reply{Kind: api.Login})
	n.want(1, remove(0), api.ErrAuth) // the session was the other one's
}

// answers are the replies of a connection that is fed so, and picked until it is idle.
func answers(t *testing.T, chunks ...string) (*nest, []api.Reply) {
	t.Helper()
	n := connected(t, small, 1)
	for _, chunk := range chunks {
		n.feed(0, chunk)
	}
	for range 100 {
		if _, err := n.Pick(0); err == api.ErrIdle {
			return n, n.replies(0)
		}
	}
	t.Fatalf("P8: 100 picks, and the connection is not idle")
	return nil, nil
}

func wantAnswers(t *testing.T, got []api.Reply, want []api.Reply) {
	t.Helper()
	if len(got) != len(want) {
		t.Fatalf("P7, P8: the replies are %+v, want %+v", got, want)
	}
	for i := range want {
		if !sameReply(got[i], want[i]) {
			t.Fatalf("P7, P8: the replies are %+v, want %+v", got, want)
		}
	}
}

// The stream has requests, bodies that are none, a break, and bytes behind it that look like a request: it is cut at any two places, and into single bytes.
func TestStreamCutAnywhere(t *testing.T) {
	stream := frame(t, register(0, 0, 258)) + "\x00\x01\x09" + frame(t, login(0, 0, 0)) + "\x00\x02\x03\x02" + "\x00\x03\x03\x00\x00" +
		"\x00\x41" + frame(t, remove(0))
	want := []api.Reply{
		{Kind: api.Register}, {Err: api.ErrBad}, {Kind: api.Login}, {Kind: api.Remove, Err: api.ErrNone}, {Err: api.ErrBad}, {Err: api.ErrFrame},
	}
	for i := range len(stream) + 1 {
		for j := i; j <= len(stream); j++ {
			n, got := answers(t, stream[:i], stream[i:j], stream[j:])
			wantAnswers(t, got, want)
			n.wantDevices(0, api.Claim{Device: 0, Reg: 258})
		}
	}
	_, got := answers(t, strings.Split(stream, "")...)
	wantAnswers(t, got, want)
}

// A frame waits from its last byte on, and not ahead of it.
func TestFrameIsWhole(t *testing.T) {
	n := connected(t, small, 1)
	stream := frame(t, register(2, 2, 9))
	for _, b := range []byte(stream[:len(stream)-1]) {
		n.feed(0, string([]byte{b}))
		n.feed(0, "")
		n.wantIdle(0)
	}
	n.feed(0, stream[len(stream)-1:])
	n.steps(0, moved, moved, moved, ended)
	n.wantIdle(0)
	n.wantDevices(2, api.Claim{Device: 2, Reg: 9})
}

// A body of MaxBody bytes is a frame, though it is no request; a length of one more is a break.
func TestLongestBody(t *testing.T) {
	_, got := answers(t, "\x00"+string(rune(api.MaxBody))+strings.Repeat("\x01", api.MaxBody)+"\x00\x02\x03\x00")
	wantAnswers(t, got, []api.Reply{{Err: api.ErrBad}, {Kind: api.Remove, Err: api.ErrAuth}})
}

func TestBreaks(t *testing.T) {
	for _, start := range []string{"\x00\x00", "\x00\x41", "\x01\x00", "\x01\x02", "\xff\xff", "\x80\x00"} {
		c := small
		c.Conns = 1
		n := connected(t, c, 1)
		n.feed(0, "\x00\x02\x03\x01"+start[:1])
		n.steps(0, ended)
		n.wantIdle(0)
		n.feed(0, start[1:])
		n.feed(0, "\x00\x02\x03\x01") // passed over, and no error
		n.feed(0, "\x00\x00")
		n.wantFull() // it is open until the break is taken
		n.steps(0, ended)
		want := []api.Reply{{Kind: api.Remove, Err: api.ErrAuth}, {Err: api.ErrFrame}}
		n.wantReplies(0, want...)
		n.wantShut(0)
		n.wantIdle(0)
		n.wantReplies(0, want...)
		n.connect()
		n.wantFull()
	}
}

// What waits ahead of a break is done first, each in its turn.
func TestBreakBehindRequests(t *testing.T) {
	n := connected(t, small, 1)
	n.feed(0, frame(t, register(0, 0, 1))+frame(t, login(0, 0, 0))+"\x00\x00")
	n.steps(0, moved, moved, moved, ended, moved, ended, ended)
	n.wantReplies(0, api.Reply{Kind: api.Register}, api.Reply{Kind: api.Login}, api.Reply{Err: api.ErrFrame})
	n.wantShut(0)
}

// A break ends its own connection, and leaves what others do.
func TestBreakBesideOthers(t *testing.T) {
	n := connected(t, small, 3)
	for _, conn := range []int{0, 2} {
		n.ask(conn, register(conn, 0, 1))
		n.steps(conn, moved, moved)
	}
	held := append(lockedBy(0, 0, 0, 0, 1), lockedBy(2, 2, 0, 2, 1)...)
	n.feed(1, "\x00\x00")
	n.steps(1, ended)
	n.wantLocks(held...)
	n.wantShut(1)
	n.wantLocks(held...)
	for _, conn := range []int{0, 2} {
		n.steps(conn, moved, ended)
		n.want(conn, login(conn, conn, 0), api.OK)
	}
}

func TestBodiesThatAreNoRequest(t *testing.T) {
	for _, body := range []string{"\x00", "\x07", "\xff", "\x03", "\x03\x00\x00", "\x01", "\x06\x00\x00\x00", "\x04\x00\x00\x11" + strings.Repeat("x", 17), "\x04\x00\x02\x01\x00\x00\x01\x00\x00\x00"} {
		n := connected(t, small, 2)
		n.ask(1, register(0, 0, 1))
		n.steps(1, moved)
		n.feed(0, "\x00"+string(rune(len(body)))+body)
		n.steps(0, ended)
		n.wantReplies(0, api.Reply{Err: api.ErrBad})
		n.wantIdle(0)
		n.wantLocks(api.Lock{Conn: 1})
		n.want(0, remove(0), api.ErrAuth) // it is open all the same
	}
}

func TestIdle(t *testing.T) {
	n := connected(t, small, 1)
	n.wantIdle(0)
	n.ask(0, register(0, 0, 1))
	n.steps(0, moved, moved, moved, ended)
	before := n.look()
	n.wantIdle(0)
	n.wantSame(before)
	n.want(0, login(0, 0, 0), api.OK)
	n.wantIdle(0)
}

// Each connection has its own stream, its own replies and its own session.
func TestConnectionsOfTheirOwn(t *testing.T) {
	n := connected(t, small, 3)
	whole := frame(t, remove(0))
	n.feed(0, whole[:3])
	n.feed(1, whole[:1])
	n.feed(2, whole)
	n.feed(0, whole[3:])
	n.feed(1, whole[1:])
	for conn := range 3 {
		n.steps(conn, ended)
		n.wantIdle(conn)
		n.wantReplies(conn, api.Reply{Kind: api.Remove, Err: api.ErrAuth})
	}
	n.settle(0, 0, 0)
	n.want(1, remove(0), api.ErrAuth)
	n.want(0, remove(0), api.OK)
}
