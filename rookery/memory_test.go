package rookery_test

import (
	"runtime"
	"slices"
	"testing"
	"time"
	"unsafe"

	"rookery/api"
)

// spoil writes into a list, its spare room with it.
func spoil[T any](list []T, with T) {
	list = list[:cap(list)]
	for i := range list {
		list[i] = with
	}
}

// told is a nest whose connection 1 has a reply of each sort that has lists.
func told(t *testing.T) *nest {
	t.Helper()
	n := pair(t, small)
	n.want(0, both("1"), api.OK)
	n.want(0, both("2"), api.OK)
	n.serve(1, send(1, "x", api.Claim{Device: 1}, api.Claim{Device: 2}, api.Claim{Device: 9}))
	n.serve(1, fetch(0, 9))
	n.serve(1, fetch(0, 1))
	n.ask(2, register(1, 1, 1))
	n.steps(2, moved, moved)
	return n
}

func spoilReplies(l []api.Reply) {
	for _, r := range l {
		spoil(r.Missing, 99)
		spoil(r.Extra, 99)
		spoil(r.Stale, 99)
		spoil(r.Letters, api.Letter{Cursor: 99, Text: "99"})
	}
	spoil(l, api.Reply{Kind: 99, Err: 99, Missing: []int{99}})
}

// What a caller writes into an answer is not seen in another one, of another call or of the same.
func TestAnswersAreNewMemory(t *testing.T) {
	n, want := told(t), told(t).look()
	spoil(n.Locks(), api.Lock{Account: 99})
	for account := range small.Accounts {
		l, _ := n.Devices(account)
		spoil(l, api.Claim{Device: 99})
	}
	for conn := range n.conns {
		spoilReplies(n.replies(conn))
	}
	n.wantSame(want)
	n.steps(2, moved, ended)
	n.wantQueue(1, 1, 2) // what a reply told is not what is in the queue
	n.want(0, send(1, "3", api.Claim{Device: 0, Reg: 10}, api.Claim{Device: 1, Reg: 1}, api.Claim{Device: 2, Reg: 12}), api.OK)
}

// The lists within one answer do not share room either.
func TestListsOfOneAnswer(t *testing.T) {
	n := told(t)
	l, want := n.replies(1), told(t).replies(1)
	for i := range l {
		spoil(l[i].Letters, api.Letter{Cursor: 99})
		spoil(l[i].Missing, 99)
		if !slices.Equal(l[i].Extra, want[i].Extra) || !slices.Equal(l[i].Stale, want[i].Stale) {
			t.Fatalf("P2: writing into Missing changed %+v, want %+v", l[i], want[i])
		}
		spoil(l[i].Extra, 98)
		if !slices.Equal(l[i].Stale, want[i].Stale) {
			t.Fatalf("P2: writing into Extra changed %+v, want %+v", l[i], want[i])
		}
		for j := i + 1; j < len(l); j++ {
			if !sameReply(l[j], want[j]) {
				t.Fatalf("P2: writing into the reply %d changed the reply %d: %+v, want %+v", i, j, l[j], want[j])
			}
		}
	}
}

// The bytes that are fed are the caller's, and may change behind the call.
func TestChunksAreNotKept(t *testing.T) {
	n := pair(t, small)
	bytes := []byte(frame(t, both("1")) + frame(t, both("2")))
	chunk := unsafe.String(&bytes[0], len(bytes)-1)
	n.feed(0, chunk)
	last := bytes[len(bytes)-1]
	for i := range bytes {
		bytes[i] = 0xff
	}
	n.feed(0, string([]byte{last}))
	n.finish(0)
	n.finish(0)
	n.wantQueue(1, 1, 2)
}

// Two rookeries have their own connections, devices, locks and time.
func TestRookeriesOfTheirOwn(t *testing.T) {
	a, b := pair(t, small), pair(t, small)
	a.want(0, both("1"), api.OK)
	b.wantQueue(1)
	b.ticks(small.Life)
	a.wantQueue(1, 1)
	a.ask(0, remove(0))
	a.steps(0, moved, moved, moved)
	b.wantLocks()
	b.want(0, remove(0), api.OK)
	a.wantDevices(0, api.Claim{})
	b.disconnect(0)
	a.steps(0, ended)
	b.wantDevices(0)
	if got, want := len(a.replies(0)), 4; got != want {
		t.Errorf("P2: %d replies, want %d", got, want)
	}
}

// No goroutine of a Feed is left when it answers.
func TestGoroutinesHaveEnded(t *testing.T) {
	n := connected(t, small, 1)
	before := runtime.NumGoroutine()
	for range 200 {
		n.feed(0, "\x00\x02\x03\x01\x00")
		n.feed(0, "\x02\x03\x02")
	}
	n.feed(0, "\x00\x00\x00\x02")
	for range 200 {
		if runtime.NumGoroutine() <= before {
			return
		}
		time.Sleep(5 * time.Millisecond) // one that has told its end may still be counted
	}
	t.Errorf("P1: there were %d goroutines, and are %d", before, runtime.NumGoroutine())
}
