package rookery_test

import (
	"strconv"
	"testing"

	"rookery/api"
)

// pair is a nest in which the connection 0 has a session of (0, 0), and the connections 1 and 2 of (1, 0) and (1, 2).
func pair(t *testing.T, c api.Config) *nest {
	t.Helper()
	n := connected(t, c, 3)
	n.settle(0, 0, 0)
	n.settle(1, 1, 0)
	n.want(1, register(1, 2, 12), api.OK)
	n.want(2, login(2, 1, 2), api.OK)
	return n
}

// both sends to the two devices of the account 1 of a pair.
func both(text string) api.Request {
	return send(1, text, api.Claim{Device: 0, Reg: 10}, api.Claim{Device: 2, Reg: 12})
}

// wantQueue asks for all letters of a connection's queue: of (0, 0), with these cursors, each with its cursor as the text.
func (n *nest) wantQueue(conn int, cursors ...int) {
	n.t.Helper()
	var letters []api.Letter
	for _, cursor := range cursors {
		letters = append(letters, api.Letter{Cursor: cursor, Text: strconv.Itoa(cursor)})
	}
	n.wantServed(conn, fetch(0, 255), api.Reply{Letters: letters})
}

func TestSendReachesAll(t *testing.T) {
	n := pair(t, small)
	n.want(0, both("1"), api.OK)
	n.want(0, both("2"), api.OK)
	n.wantQueue(1, 1, 2)
	n.wantQueue(2, 1, 2)
	n.wantQueue(0)
	// each device has its own cursors; the letter tells who sent it
	n.want(1, remove(2), api.OK)
	n.want(1, register(1, 2, 3), api.OK)
	n.want(2, login(2, 1, 2), api.OK)
	n.wantQueue(2)
	n.want(2, send(1, "\x00\xff", api.Claim{Device: 0, Reg: 10}, api.Claim{Device: 2, Reg: 3}), api.OK)
	n.wantServed(2, fetch(0, 9), api.Reply{Letters: []api.Letter{{Cursor: 1, Account: 1, Device: 2, Text: "\x00\xff"}}})
	n.wantServed(1, fetch(3, 9), api.Reply{Letters: []api.Letter{{Cursor: 3, Account: 1, Device: 2, Text: "\x00\xff"}}})
}

func TestMismatch(t *testing.T) {
	n := pair(t, small)
	for _, c := range []struct {
		claims                []api.Claim
		missing, extra, stale []int
	}{
		{nil, []int{0, 2}, nil, nil},
		{[]api.Claim{{Device: 0, Reg: 10}}, []int{2}, nil, nil},
		{[]api.Claim{{Device: 2, Reg: 12}}, []int{0}, nil, nil},
		{[]api.Claim{{Device: 0, Reg: 10}, {Device: 1, Reg: 0}, {Device: 2, Reg: 12}}, nil, []int{1}, nil},
		{[]api.Claim{{Device: 0, Reg: 10}, {Device: 2, Reg: 12}, {Device: 3, Reg: 0}, {Device: 255, Reg: 1}}, nil, []int{3, 255}, nil},
		{[]api.Claim{{Device: 0, Reg: 11}, {Device: 2, Reg: 12}}, nil, nil, []int{0}},
		{[]api.Claim{{Device: 0, Reg: 12}, {Device: 2, Reg: 10}}, nil, nil, []int{0, 2}},
		{[]api.Claim{{Device: 1, Reg: 10}, {Device: 2, Reg: 65535}}, []int{0}, []int{1}, []int{2}},
	} {
		n.wantServed(0, send(1, "x", c.claims...), api.Reply{Err: api.ErrMismatch, Missing: c.missing, Extra: c.extra, Stale: c.stale})
	}
	n.wantServed(0, send(2, "x", api.Claim{}), api.Reply{Err: api.ErrMismatch, Extra: []int{0}})
	n.want(0, send(2, "x"), api.OK)
	n.wantQueue(1)
	n.wantQueue(2)
}

// The errors of a Send in their order: ErrAuth, ErrNone, ErrMismatch, ErrSpent, ErrQuota.
func TestErrorsOfSend(t *testing.T) {
	c := small
	c.Queue, c.Cursors = 2, 2
	n := pair(t, c)
	n.want(0, send(3, "x"), api.ErrNone)
	n.want(0, send(255, "x", api.Claim{Device: 9}), api.ErrNone)
	n.want(0, send(0, "x", api.Claim{Device: 0, Reg: 0}), api.OK)
	n.connect()
	n.want(3, send(3, "x"), api.ErrAuth)
	n.want(3, both("x"), api.ErrAuth)
	n.want(0, both("1"), api.OK)
	n.want(0, both("2"), api.OK)
	n.want(0, both("x"), api.ErrSpent) // and both queues are full
	n.wantServed(0, send(1, "x"), api.Reply{Err: api.ErrMismatch, Missing: []int{0, 2}})
	n.want(1, remove(0), api.OK)
	n.want(2, register(1, 0, 10), api.OK)
	n.want(0, both("x"), api.ErrSpent) // of the second device alone
	n.wantQueue(2, 1, 2)
	n.want(1, login(1, 1, 0), api.OK)
	n.wantQueue(1)
}

// What a Send, a Fetch or an Ack asks for is not done, and no error behind ErrAuth is told, without a session that is good.
func TestLettersNeedASession(t *testing.T) {
	n := pair(t, small)
	n.want(0, both("1"), api.OK)
	conn := n.connect()
	wantRefused := func() {
		t.Helper()
		for _, q := range []api.Request{both("x"), send(1, "x"), send(2, "x"), send(3, "x"), send(255, "x", api.Claim{}), fetch(0, 255), fetch(9, 0), ack(0), ack(255)} {
			n.want(conn, q, api.ErrAuth)
		}
	}
	wantRefused()
	n.settle(conn, 2, 0)
	n.want(conn, remove(0), api.OK)
	wantRefused()
	n.wantQueue(1, 1)
	n.wantQueue(2, 1)
}

// A spent device is told ahead of a full queue, whichever of them comes first.
func TestSpentAheadOfQuota(t *testing.T) {
	c := small
	c.Queue, c.Cursors = 2, 3
	for spent := range 2 {
		full := 1 - spent
		n := connected(t, c, 3)
		n.settle(1, 1, spent)
		n.want(1, send(1, "1", api.Claim{Device: spent, Reg: 10 + spent}), api.OK)
		n.want(1, ack(1), api.OK)
		n.want(1, register(1, full, 10+full), api.OK)
		all := func(text string) api.Request {
			return send(1, text, api.Claim{Device: 0, Reg: 10}, api.Claim{Device: 1, Reg: 11})
		}
		n.want(1, all("2"), api.OK)
		n.want(1, all("3"), api.OK)
		n.want(1, all("x"), api.ErrSpent) // both queues are full, and one has a cursor left
		n.want(1, ack(3), api.OK)
		n.want(1, all("x"), api.ErrSpent)
		n.want(2, login(2, 1, full), api.OK)
		n.want(2, ack(1), api.OK)
		n.want(1, all("x"), api.ErrSpent)
		n.want(2, remove(spent), api.OK)
		n.want(2, send(1, "4", api.Claim{Device: full, Reg: 10 + full}), api.OK)
	}
}

// The last cursor that a device may give is Cursors; Ack does not bring one back.
func TestSpent(t *testing.T) {
	c := small
	c.Cursors = 3
	n := pair(t, c)
	for _, text := range []string{"1", "2", "3"} {
		n.want(0, both(text), api.OK)
		n.want(1, ack(255), api.OK)
	}
	n.wantQueue(2, 1, 2, 3)
	n.want(0, both("x"), api.ErrSpent)
	n.want(2, ack(255), api.OK)
	n.want(0, both("x"), api.ErrSpent)
	n.wantQueue(1)
}

// A full queue of the last device keeps the letter from the first one too.
func TestQuota(t *testing.T) {
	for queue := 1; queue <= api.MaxQueue; queue++ {
		c := small
		c.Queue = queue
		n := pair(t, c)
		for i := range queue {
			n.want(0, both(strconv.Itoa(i+1)), api.OK)
		}
		n.want(0, both("x"), api.ErrQuota)
		n.want(1, ack(255), api.OK)
		n.want(0, both("x"), api.ErrQuota)
		n.wantQueue(1)
		n.want(2, ack(1), api.OK)
		n.want(0, both(strconv.Itoa(queue+1)), api.OK)
		n.wantQueue(1, queue+1)
		n.want(0, both("x"), api.ErrQuota)
	}
}

func TestFetch(t *testing.T) {
	n := pair(t, small)
	for _, text := range []string{"1", "2", "3"} {
		n.want(0, both(text), api.OK)
	}
	letters := []api.Letter{{Cursor: 1, Text: "1"}, {Cursor: 2, Text: "2"}, {Cursor: 3, Text: "3"}}
	for _, c := range []struct {
		cursor, most, from, to int
		more                   bool
	}{
		{0, 255, 0, 3, false}, {0, 3, 0, 3, false}, {0, 2, 0, 2, true}, {0, 1, 0, 1, true}, {0, 0, 0, 0, true},
		{1, 3, 0, 3, false}, {2, 3, 1, 3, false}, {2, 2, 1, 3, false}, {2, 1, 1, 2, true}, {3, 1, 2, 3, false}, {3, 0, 2, 2, true},
		{4, 9, 3, 3, false}, {4, 0, 3, 3, false}, {1<<32 - 1, 255, 3, 3, false},
	} {
		n.wantServed(1, fetch(c.cursor, c.most), api.Reply{Letters: letters[c.from:c.to], More: c.more})
	}
}

func TestAck(t *testing.T) {
	n := pair(t, small)
	for _, text := range []string{"1", "2", "3"} {
		n.want(0, both(text), api.OK)
	}
	n.want(1, ack(0), api.OK)
	n.wantQueue(1, 1, 2, 3)
	n.want(1, ack(2), api.OK)
	n.wantQueue(1, 3)
	n.wantQueue(2, 1, 2, 3)
	n.want(1, ack(1), api.OK)
	n.wantQueue(1, 3)
	n.want(1, ack(1<<32-1), api.OK)
	n.wantQueue(1)
	n.want(2, ack(3), api.OK)
	n.want(0, both("4"), api.OK)
	n.wantQueue(1, 4)
}

func (n *nest) ticks(many int) {
	for range many {
		n.Tick()
	}
}

// A letter lives for Life ticks, less one, behind its Send; one that lives no more leaves room.
func TestLife(t *testing.T) {
	for _, life := range []int{1, 2, 4, api.MaxLife} {
		c := small
		c.Life, c.Queue = life, 1
		n := pair(t, c)
		n.ticks(3)
		n.want(0, both("1"), api.OK)
		n.ticks(life - 1)
		n.wantQueue(1, 1)
		n.want(0, both("x"), api.ErrQuota)
		n.Tick()
		n.wantQueue(1)
		n.want(0, both("2"), api.OK)
		n.wantQueue(1, 2)
		n.ticks(2 * life)
		n.wantQueue(2)
	}
}

func TestLettersOfSeveralTimes(t *testing.T) {
	n := pair(t, small)
	n.want(0, both("1"), api.OK)
	n.ticks(2)
	n.want(0, both("2"), api.OK)
	n.want(0, both("3"), api.OK)
	n.want(0, both("x"), api.ErrQuota)
	n.ticks(2)
	n.wantQueue(1, 2, 3)
	n.want(0, both("4"), api.OK)
	n.wantQueue(1, 2, 3, 4)
	n.ticks(2)
	n.wantQueue(2, 4)
}

// A letter's life begins when its Send decides, whenever it comes into the queues; it takes its cursor even if it lives no more by then.
func TestTimeGoesByWithinASend(t *testing.T) {
	n := pair(t, small)
	n.ask(0, both("1"))
	n.ticks(9)
	n.steps(0, moved, moved, moved, moved, moved) // decides
	n.ticks(2)
	n.steps(0, moved)
	n.ticks(1)
	n.steps(0, ended)
	n.wantQueue(1, 1)
	n.wantQueue(2, 1)
	n.Tick()
	n.wantQueue(1)
	n.wantQueue(2)
	n.ask(0, both("x"))
	n.steps(0, moved, moved, moved, moved, moved, moved)
	n.ticks(small.Life)
	n.steps(0, ended)
	n.wantQueue(1)
	n.wantQueue(2)
	n.want(0, both("3"), api.OK)
	n.wantQueue(1, 3)
	n.wantQueue(2, 3)
}

// Between the decision and the last device a letter may come to its end: it is in no queue then, takes no room, and its cursor is gone in all of them.
func TestLetterThatEndsOnItsWay(t *testing.T) {
	c := small
	c.Queue = 1
	for devices := range 2 { // that have it by then
		for _, lives := range []bool{true, false} {
			n := pair(t, c)
			n.ask(0, both("1"))
			n.steps(0, moved, moved, moved, moved, moved)
			for range devices {
				n.steps(0, moved)
			}
			n.ticks(c.Life - 1)
			if !lives {
				n.Tick()
			}
			n.finish(0)
			if l := n.replies(0); !sameReply(l[len(l)-1], api.Reply{Kind: api.Send}) {
				t.Fatalf("P10: the reply to a Send whose letter ends on its way: %+v, want OK", l[len(l)-1])
			}
			if lives {
				n.wantQueue(1, 1)
				n.wantQueue(2, 1)
				n.want(0, both("x"), api.ErrQuota)
				n.Tick()
			}
			n.wantQueue(1)
			n.wantQueue(2)
			n.want(0, both("2"), api.OK)
			n.wantQueue(1, 2)
			n.wantQueue(2, 2)
		}
	}
}

// A letter that ends on its way spends its cursors all the same.
func TestCursorOfALetterThatEndsOnItsWay(t *testing.T) {
	c := small
	c.Cursors = 1
	n := pair(t, c)
	n.ask(0, both("1"))
	n.steps(0, moved, moved, moved, moved, moved)
	n.ticks(c.Life)
	n.finish(0)
	n.want(0, both("x"), api.ErrSpent)
}

// The quota is asked for when the Send decides, not when it was taken.
func TestQuotaAtTheDecision(t *testing.T) {
	c := small
	c.Queue = 1
	n := pair(t, c)
	n.want(0, both("1"), api.OK)
	n.ask(0, both("2"))
	n.steps(0, moved, moved, moved, moved)
	n.ticks(small.Life)
	n.finish(0)
	n.wantQueue(1, 2)
}

// What was in the queue of a removed device is not in that of the next one.
func TestQueueOfARemovedDevice(t *testing.T) {
	n := pair(t, small)
	n.want(0, both("1"), api.OK)
	n.want(1, remove(2), api.OK)
	n.want(1, register(1, 2, 12), api.OK)
	n.want(2, login(2, 1, 2), api.OK)
	n.wantQueue(2)
	n.wantQueue(1, 1)
}

// A sender's own devices are devices of the account like all others.
func TestSendToItself(t *testing.T) {
	n := pair(t, small)
	n.wantServed(1, send(1, "x", api.Claim{Device: 2, Reg: 12}), api.Reply{Err: api.ErrMismatch, Missing: []int{0}})
	n.want(1, both("own"), api.OK)
	want := api.Reply{Letters: []api.Letter{{Cursor: 1, Account: 1, Device: 0, Text: "own"}}}
	n.wantServed(1, fetch(1, 1), want)
	n.wantServed(2, fetch(1, 1), want)
}

func TestTexts(t *testing.T) {
	c := small
	c.Queue = 8
	n := pair(t, c)
	texts := []string{"", "x", "\x00", "\xff\xfe", "ä€", "0123456789abcdef"}
	var letters []api.Letter
	for i, text := range texts {
		n.want(0, both(text), api.OK)
		letters = append(letters, api.Letter{Cursor: i + 1, Text: text})
	}
	n.wantServed(1, fetch(0, 255), api.Reply{Letters: letters})
}
