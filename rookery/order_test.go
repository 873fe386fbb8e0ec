package rookery_test

import (
	"math/rand"
	"reflect"
	"slices"
	"testing"

	"rookery/api"
)

// chance makes requests that often meet: few accounts, few devices, few numbers.
type chance struct {
	*rand.Rand
	config api.Config
}

func (c *chance) someConfig() api.Config {
	return api.Config{
		Accounts: 1 + c.Intn(api.MaxAccounts), Devices: 1 + c.Intn(api.MaxDevices), Queue: 1 + c.Intn(api.MaxQueue),
		Conns: 1 + c.Intn(api.MaxConns), Life: 1 + c.Intn(6), Cursors: 1 + c.Intn(30),
	}
}

// below is a number that now and then is one beyond those that there are.
func (c *chance) below(n int) int {
	if c.Intn(25) == 0 {
		return n
	}
	return c.Intn(n)
}

func (c *chance) someClaims() []api.Claim {
	var claims []api.Claim
	for device := range c.config.Devices + 1 {
		if c.Intn(4) > 0 && (device < c.config.Devices || c.Intn(30) == 0) {
			claims = append(claims, api.Claim{Device: device, Reg: c.Intn(20) / 19})
		}
	}
	return claims
}

// someRequest is one of a connection; the devices that it knows are those that are there now, or some.
func (c *chance) someRequest(conn int, there func(account int) []api.Claim) api.Request {
	account, device := c.below(c.config.Accounts), c.below(c.config.Devices)
	switch c.Intn(16) {
	case 0, 1, 2:
		return register(account, device, c.Intn(20)/19)
	case 3, 4, 5:
		return login(conn, account, device)
	case 6:
		q := login(conn, account, device)
		q.Mac[c.Intn(8)]++
		return q
	case 7:
		return remove(device)
	case 8, 9:
		return fetch(c.Intn(8), c.Intn(6))
	case 10:
		return ack(c.Intn(12))
	case 11:
		return send(account, "", c.someClaims()...)
	default:
		return send(account, string(rune('a'+c.Intn(26))), there(account)...)
	}
}

// event is a request that has ended.
type event struct {
	conn    int
	request api.Request
}

// run lets all connections of a nest do requests, in pieces and picked by chance, until all are idle: in which order they ended.
func (c *chance) run(n *nest, requests int) []event {
	n.t.Helper()
	asked := make([][]api.Request, n.conns)
	left := make([]string, n.conns)
	most := 1000 * requests
	var order []event
	for range most {
		conn := c.Intn(n.conns)
		if requests > 0 && c.Intn(3) == 0 {
			q := c.someRequest(conn, func(account int) []api.Claim { l, _ := n.Devices(account); return l })
			asked[conn] = append(asked[conn], q)
			left[conn] += frame(n.t, q)
			requests--
		}
		part := c.Intn(len(left[conn]) + 1)
		n.feed(conn, left[conn][:part])
		left[conn] = left[conn][part:]
		if got, err := n.Pick(conn); err == api.OK && got == ended {
			order = append(order, event{conn, asked[conn][0]})
			asked[conn] = asked[conn][1:]
		}
		if requests == 0 && n.allDone(asked) {
			return order
		}
	}
	n.t.Fatalf("P12: %d picks, and not all requests have ended", most)
	return nil
}

func (n *nest) allDone(asked [][]api.Request) bool {
	for _, l := range asked {
		if len(l) > 0 {
			return false
		}
	}
	n.wantLocks()
	return true
}

// While no time goes by, all replies are those of the requests one by one, in the order in which they ended.
func TestAsIfOneByOne(t *testing.T) {
	kinds := map[int]int{}
	for seed := range int64(300) {
		c := &chance{Rand: rand.New(rand.NewSource(seed))}
		c.config = c.someConfig()
		many := connected(t, c.config, c.config.Conns)
		order := c.run(many, 60)
		one := connected(t, c.config, c.config.Conns)
		for _, e := range order {
			reply := one.serve(e.conn, e.request)
			if reply.Err == api.OK {
				kinds[reply.Kind]++
			}
		}
		if a, b := many.look(), one.look(); !reflect.DeepEqual(a, b) {
			t.Fatalf("P12: seed %d: together %+v, one by one %+v", seed, a, b)
		}
	}
	for kind := api.Register; kind <= api.Ack; kind++ {
		if kinds[kind] < 100 {
			t.Errorf("the kind %d was OK %d times: too few to tell anything", kind, kinds[kind])
		}
	}
}

// Whoever is picked in turn ends, however the requests cross.
func TestPickedInTurn(t *testing.T) {
	for seed := range int64(50) {
		c := &chance{Rand: rand.New(rand.NewSource(seed)), config: small}
		n := pair(t, small)
		n.connect()
		n.connect()
		const requests = 20
		start := make([]int, n.conns)
		for conn := range n.conns {
			start[conn] = len(n.replies(conn))
			for range requests {
				n.ask(conn, c.someRequest(conn, func(account int) []api.Claim { l, _ := n.Devices(account); return l }))
			}
		}
		// each request has at most 8 steps (four locks, the decision, three devices), and in every round one at least goes on
		for range n.conns * requests * 8 {
			for conn := range n.conns {
				n.Pick(conn)
			}
		}
		for conn := range n.conns {
			n.wantIdle(conn)
			if got := len(n.replies(conn)) - start[conn]; got != requests {
				t.Fatalf("P12: seed %d: the connection %d has %d replies, want %d", seed, conn, got, requests)
			}
		}
	}
}

// crowd is a nest in which the account 1 has three devices, whose sessions the connections 0 to 2 have, and the accounts 0 and 2 have a device each, with the connections 3 and 4.
func crowd(t *testing.T, c api.Config) *nest {
	t.Helper()
	n := connected(t, c, 5)
	n.settle(0, 1, 0)
	for device := 1; device < 3; device++ {
		n.want(0, register(1, device, 10+device), api.OK)
		n.want(device, login(device, 1, device), api.OK)
	}
	n.settle(3, 0, 0)
	n.settle(4, 2, 0)
	return n
}

// someLetter is a Send to the account 1 of a crowd; of some the claims are wrong.
func (c *chance) someLetter(text string) api.Request {
	claims := []api.Claim{{Device: 0, Reg: 10}, {Device: 1, Reg: 11}, {Device: 2, Reg: 12}}
	switch c.Intn(6) {
	case 0:
		claims = claims[:2]
	case 1:
		claims[2].Reg++
	}
	return send(1, text, claims...)
}

// sendAll lets all connections of a crowd send one letter each, picked by chance, with time between the picks: the texts that are OK, in the order in which their Sends ended.
func (c *chance) sendAll(n *nest, ticks int) []string {
	n.t.Helper()
	for conn := range n.conns {
		n.ask(conn, c.someLetter(string(rune('a'+conn))))
	}
	var sent []string
	left := n.conns
	for range 10000 {
		if left == 0 {
			return sent
		}
		if c.Intn(20) == 0 && ticks > 0 {
			n.Tick()
			ticks--
		}
		conn := c.Intn(n.conns)
		if got, _ := n.Pick(conn); got != ended {
			continue
		}
		left--
		if l := n.replies(conn); l[len(l)-1].Err == api.OK {
			sent = append(sent, string(rune('a'+conn)))
		}
	}
	n.t.Fatalf("P12: 10000 picks, and %d Sends have not ended", left)
	return nil
}

// A letter is in all queues or, if its Send has an error, in none, and all queues have the letters in one order, whoever is picked, and when time goes by too.
func TestQueuesAreTheSame(t *testing.T) {
	for seed := range int64(300) {
		c := &chance{Rand: rand.New(rand.NewSource(seed))}
		config := small
		config.Life = 6
		n := crowd(t, config)
		sent := c.sendAll(n, config.Life-1)
		for tick := range 2 * config.Life {
			var queues [3][]api.Letter
			for conn := range queues {
				queues[conn] = n.serve(conn, fetch(0, 255)).Letters
			}
			if !slices.Equal(queues[0], queues[1]) || !slices.Equal(queues[0], queues[2]) {
				t.Fatalf("P12: seed %d: the queues are %+v", seed, queues)
			}
			if tick == 0 {
				wantTexts(t, queues[0], sent)
			}
			n.Tick()
		}
	}
}

// wantTexts asks for letters of these texts, with the cursors from 1 on.
func wantTexts(t *testing.T, letters []api.Letter, texts []string) {
	t.Helper()
	for i, l := range letters {
		if i >= len(texts) || l.Text != texts[i] || l.Cursor != i+1 {
			t.Fatalf("P12: the letters are %+v, want %v", letters, texts)
		}
	}
	if len(letters) != len(texts) {
		t.Fatalf("P12: the letters are %+v, want %v", letters, texts)
	}
}

// Nobody sees a letter in one queue and not in another: who fetches ahead of the last step of a Send waits for it.
func TestLetterIsSeenInAllQueues(t *testing.T) {
	for steps := range 8 { // of the Send: a lock of its own, three of the account, the decision, three devices
		n := crowd(t, small)
		n.ask(3, send(1, "1", api.Claim{Device: 0, Reg: 10}, api.Claim{Device: 1, Reg: 11}, api.Claim{Device: 2, Reg: 12}))
		for range steps {
			n.steps(3, moved)
		}
		for conn := range 3 {
			n.ask(conn, fetch(0, 255))
			if steps > 1+conn {
				n.steps(conn, blocked)
			} else {
				n.steps(conn, moved, ended)
			}
		}
		n.finish(3)
		for conn := range 3 {
			if steps > 1+conn {
				n.steps(conn, moved, ended)
				l := n.replies(conn)
				wantTexts(t, l[len(l)-1].Letters, []string{"1"})
			}
			n.wantQueue(conn, 1)
		}
	}
}

// The stream has letters, which are sent, fetched and dropped: it is cut at any two places.
func TestLettersOfAStreamCutAnywhere(t *testing.T) {
	me, other := api.Claim{Device: 0, Reg: 7}, api.Claim{Device: 1}
	var stream string
	for _, q := range []api.Request{
		register(0, 0, 7), login(0, 0, 0), send(0, "\x00\x02\x03\x00", me), send(0, "b", me, other), send(0, "c", me), fetch(0, 1), ack(1), fetch(0, 9),
	} {
		stream += frame(t, q)
	}
	want := []api.Reply{
		{Kind: api.Register}, {Kind: api.Login}, {Kind: api.Send}, {Kind: api.Send, Err: api.ErrMismatch, Extra: []int{1}}, {Kind: api.Send},
		{Kind: api.Fetch, Letters: []api.Letter{{Cursor: 1, Text: "\x00\x02\x03\x00"}}, More: true}, {Kind: api.Ack},
		{Kind: api.Fetch, Letters: []api.Letter{{Cursor: 2, Text: "c"}}},
	}
	for i := range len(stream) + 1 {
		for j := i; j <= len(stream); j++ {
			_, got := answers(t, stream[:i], stream[i:j], stream[j:])
			wantAnswers(t, got, want)
		}
	}
}

// Sends that cross, each to the account of the next one, do not wait for one another in a ring.
func TestSendsThatCross(t *testing.T) {
	n := connected(t, small, 3)
	for conn := range 3 {
		n.settle(conn, conn, 0)
	}
	for conn := range 3 { // 0 to 1, 1 to 2, 2 to 0
		to := (conn + 1) % 3
		n.ask(conn, send(to, "x", api.Claim{Device: 0, Reg: 10 * to}))
	}
	const most = 3 * 6 // each has four locks, the decision and one device, and one at least goes on in each round
	ends := 0
	for range most {
		for conn := range 3 {
			if got, _ := n.Pick(conn); got == ended {
				ends++
			}
		}
	}
	if ends != 3 {
		t.Fatalf("P12: %d of 3 Sends have ended when each was picked %d times", ends, most)
	}
	for conn := range 3 {
		from := (conn + 2) % 3
		n.wantServed(conn, fetch(0, 9), api.Reply{Letters: []api.Letter{{Cursor: 1, Account: from, Device: 0, Text: "x"}}})
	}
}

// One request ends, though all others ask for the same places again and again, as long as each is picked in turn.
func TestNobodyWaitsForEver(t *testing.T) {
	hello := send(1, "x", api.Claim{Device: 0, Reg: 10}, api.Claim{Device: 1, Reg: 11}, api.Claim{Device: 2, Reg: 12})
	config := small
	config.Life, config.Cursors = 1, api.MaxCursors // so that no Send is cut short
	for _, q := range []api.Request{register(1, 0, 1), login(2, 1, 2), remove(9), hello, fetch(0, 9), ack(0)} {
		n := crowd(t, config)
		const patient = 2
		others := []int{0, 1, 3, 4}
		before := len(n.replies(patient))
		n.ask(patient, q)
		// each of the others may be ahead once for each of the four places, with eight steps and those it waits for
		for range 4 * len(others) * 8 * n.conns {
			for _, conn := range others {
				n.ask(conn, hello)
				n.Pick(conn)
			}
			n.Pick(patient)
			n.Tick()
		}
		if got := len(n.replies(patient)); got != before+1 {
			t.Errorf("P12: picked in turn, and %+v has not ended", q)
		}
	}
}
