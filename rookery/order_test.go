package rookery_test

import (
	"math/rand"
	"reflect"
	"testing"

	"rookery/api"
)

// chance makes requests that often meet: few accounts, few devices, few numbers.
type chance struct {
	*rand.Rand
	config api.Config
}

func (c *chance) someConfig() api.Config {
	return api.Config{
		Accounts: 1 + c.Intn(api.MaxAccounts), Devices: 1 + c.Intn(api.MaxDevices), Queue: 1 + c.Intn(api.MaxQueue),
		Conns: 1 + c.Intn(api.MaxConns), Life: 1 + c.Intn(6), Cursors: 1 + c.Intn(30),
	}
}

// below is a number that now and then is one beyond those that there are.
func (c *chance) below(n int) int {
	if c.Intn(25) == 0 {
		return n
	}
	return c.Intn(n)
}

func (c *chance) someClaims() []api.Claim {
	var claims []api.Claim
	for device := range c.config.Devices + 1 {
		if c.Intn(4) > 0 && (device < c.config.Devices || c.Intn(30) == 0) {
			claims = append(claims, api.Claim{Device: device, Reg: c.Intn(20) / 19})
		}
	}
	return claims
}

// someRequest is one of a connection; the devices that it knows are those that are there now, or some.
func (c *chance) someRequest(conn int, there func(account int) []api.Claim) api.Request {
	account, device := c.below(c.config.Accounts), c.below(c.config.Devices)
	switch c.Intn(16) {
	case 0, 1, 2:
		return register(account, device, c.Intn(20)/19)
	case 3, 4, 5:
		return login(conn, account, device)
	case 6:
		q := login(conn, account, device)
		q.Mac[c.Intn(8)]++
		return q
	case 7:
		return remove(device)
	case 8, 9:
		return fetch(c.Intn(8), c.Intn(6))
	case 10:
		return ack(c.Intn(12))
	case 11:
		return send(account, "", c.someClaims()...)
	default:
		return send(account, string(rune('a'+c.Intn(26))), there(account)...)
	}
}

// event is a request that has ended.
type event struct {
	conn    int
	request api.Request
}

// run lets all connections of a nest do requests, in pieces and picked by chance, until all are idle: in which order they ended.
func (c *chance) run(n *nest, requests int) []event {
	n.t.Helper()
	asked := make([][]api.Request, n.conns)
	left := make([]string, n.conns)
	most := 1000 * requests
	var order []event
	for range most {
		conn := c.Intn(n.conns)
		if requests > 0 && c.Intn(3) == 0 {
			q := c.someRequest(conn, func(account int) []api.Claim { l, _ := n.Devices(account); return l })
			asked[conn] = append(asked[conn], q)
			left[conn] += frame(n.t, q)
			requests--
		}
		part := c.Intn(len(left[conn]) + 1)
		n.feed(conn, left[conn][:part])
		left[conn] = left[conn][part:]
		if got, err := n.Pick(conn); err == api.OK && got == ended {
			order = append(order, event{conn, asked[conn][0]})
			asked[conn] = asked[conn][1:]
		}
		if requests == 0 && n.allDone(asked) {
			return order
		}
	}
	n.t.Fatalf("P12: %d picks, and not all requests have ended", most)
	return nil
}

func (n *nest) allDone(asked [][]api.Request) bool {
	for _, l := range asked {
		if len(l) > 0 {
			return false
		}
	}
	n.wantLocks()
	return true
}

// While no time goes by, all replies are those of the requests one by one, in the order in which they ended.
func TestAsIfOneByOne(t *testing.T) {
	kinds := map[int]int{}
	for seed := range int64(300) {
		c := &chance{Rand: rand.New(rand.NewSource(seed))}
		c.config = c.someConfig()
		many := connected(t, c.config, c.config.Conns)
		order := c.run(many, 60)
		one := connected(t, c.config, c.config.Conns)
		for _, e := range order {
			reply := one.serve(e.conn, e.request)
			if reply.Err == api.OK {
				kinds[reply.Kind]++
			}
		}
		if a, b := many.look(), one.look(); !reflect.DeepEqual(a, b) {
			t.Fatalf("P12: seed %d: together %+v, one by one %+v", seed, a, b)
		}
	}
	for kind := api.Register; kind <= api.Ack; kind++ {
		if kinds[kind] < 100 {
			t.Errorf("the kind %d was OK %d times: too few to tell anything", kind, kinds[kind])
		}
	}
}

// Whoever is picked in turn ends, however the requests cross.
func TestPickedInTurn(t *testing.T) {
	for seed := range int64(50) {
		c := &chance{Rand: rand.New(rand.NewSource(seed)), config: small}
		n := pair(t, small)
		n.connect()
		n.connect()
		const requests = 20
		start := make([]int, n.conns)
		for conn := range n.conns {
			start[conn] = len(n.replies(conn))
			for range requests {
				n.ask(conn, c.someRequest(conn, func(account int) []api.Claim { l, _ := n.Devices(account); return l }))
			}
		}
		// each request has at most 8 steps (four locks, the decision, three devices), and in every round one at least goes on
		for range n.conns * requests * 8 {
			for conn := range n.conns {
				n.Pick(conn)
			}
		}
		for conn := range n.conns {
			n.wantIdle(conn)
			if got := len(n.replies(conn)) - start[conn]; got != requests {
				t.Fatalf("P12: seed %d: the connection %d has %d replies, want %d", seed, conn, got, requests)
			}
		}
	}
}
