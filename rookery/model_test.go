package rookery_test

import (
	"math/rand"
	"slices"
	"testing"

	"rookery/api"
	"rookery/wire"
)

// model is P10 for requests that are served one by one, written for plainness: letters are never thrown away, and every device that ever was keeps its number in a list.
type model struct {
	config   api.Config
	time     int
	devices  []modelDevice // all that ever were
	letters  []modelLetter
	sessions map[int]int // connection: which of the devices
}

type modelDevice struct {
	account, device, reg, next int
	key                        [16]byte
	gone                       bool
}

type modelLetter struct {
	api.Letter
	owner, born int
	acked       bool
}

// at is which of the devices is there: -1, if none is.
func (m *model) at(account, device int) int {
	return slices.IndexFunc(m.devices, func(d modelDevice) bool { return !d.gone && d.account == account && d.device == device })
}

func (m *model) of(account int) []api.Claim {
	var there []api.Claim
	for device := range 256 {
		if i := m.at(account, device); i >= 0 {
			there = append(there, api.Claim{Device: device, Reg: m.devices[i].reg})
		}
	}
	return there
}

func (m *model) session(conn int) int {
	if i, ok := m.sessions[conn]; ok && !m.devices[i].gone {
		return i
	}
	return -1
}

func (m *model) living(owner int) []modelLetter {
	var l []modelLetter
	for _, x := range m.letters {
		if x.owner == owner && !x.acked && m.time < x.born+m.config.Life {
			l = append(l, x)
		}
	}
	return l
}

func (m *model) serve(conn int, q api.Request) api.Reply {
	reply := api.Reply{Kind: q.Kind}
	mine := m.session(conn)
	if q.Kind >= api.Remove && mine < 0 {
		reply.Err = api.ErrAuth
		return reply
	}
	switch q.Kind {
	case api.Register:
		reply.Err = m.register(q, mine)
	case api.Login:
		reply.Err = m.login(conn, q)
	case api.Remove:
		if i := m.at(m.devices[mine].account, q.Device); i >= 0 {
			m.devices[i].gone = true
		} else {
			reply.Err = api.ErrNone
		}
	case api.Send:
		m.send(q, mine, &reply)
	case api.Fetch:
		for _, l := range m.living(mine) {
			if l.Cursor >= q.Cursor {
				reply.Letters = append(reply.Letters, l.Letter)
			}
		}
		reply.More = len(reply.Letters) > q.Most
		reply.Letters = reply.Letters[:min(q.Most, len(reply.Letters))]
	case api.Ack:
		for i := range m.letters {
			if m.letters[i].owner == mine && m.letters[i].Cursor <= q.Cursor {
				m.letters[i].acked = true
			}
		}
	}
	return reply
}

func (m *model) register(q api.Request, mine int) api.Errno {
	switch {
	case q.Account >= m.config.Accounts || q.Device >= m.config.Devices:
		return api.ErrNone
	case m.at(q.Account, q.Device) >= 0:
		return api.ErrThere
	case len(m.of(q.Account)) > 0 && (mine < 0 || m.devices[mine].account != q.Account):
		return api.ErrAuth
	}
	m.devices = append(m.devices, modelDevice{account: q.Account, device: q.Device, reg: q.Reg, next: 1, key: q.Key})
	return api.OK
}

func (m *model) login(conn int, q api.Request) api.Errno {
	if q.Account >= m.config.Accounts || q.Device >= m.config.Devices {
		return api.ErrNone
	}
	i := m.at(q.Account, q.Device)
	if i < 0 || wire.Mix(m.devices[i].key, nonceOf(conn)) != q.Mac {
		return api.ErrAuth
	}
	m.sessions[conn] = i
	return api.OK
}

func (m *model) send(q api.Request, mine int, reply *api.Reply) {
	if q.Account >= m.config.Accounts {
		reply.Err = api.ErrNone
		return
	}
	there := m.of(q.Account)
	has := func(l []api.Claim, device int) bool {
		return slices.ContainsFunc(l, func(c api.Claim) bool { return c.Device == device })
	}
	for device := range 256 {
		switch {
		case has(there, device) && !has(q.Claims, device):
			reply.Missing = append(reply.Missing, device)
		case !has(there, device) && has(q.Claims, device):
			reply.Extra = append(reply.Extra, device)
		case has(there, device) && !slices.Contains(q.Claims, api.Claim{Device: device, Reg: m.devices[m.at(q.Account, device)].reg}):
			reply.Stale = append(reply.Stale, device)
		}
	}
	var full, spent bool
	for _, c := range there {
		i := m.at(q.Account, c.Device)
		spent = spent || m.devices[i].next > m.config.Cursors
		full = full || len(m.living(i)) >= m.config.Queue
	}
	switch {
	case !slices.Equal(there, q.Claims):
		reply.Err = api.ErrMismatch
	case spent:
		reply.Err = api.ErrSpent
	case full:
		reply.Err = api.ErrQuota
	default:
		for _, c := range there {
			i := m.at(q.Account, c.Device)
			from := m.devices[mine]
			l := api.Letter{Cursor: m.devices[i].next, Account: from.account, Device: from.device, Text: q.Text}
			m.letters = append(m.letters, modelLetter{Letter: l, owner: i, born: m.time})
			m.devices[i].next++
		}
	}
}

// Requests by chance, with time between them, have the replies that the model has.
func TestAgainstTheModel(t *testing.T) {
	type outcome struct {
		kind int
		err  api.Errno
	}
	met := map[outcome]int{}
	for seed := range int64(200) {
		c := &chance{Rand: rand.New(rand.NewSource(seed))}
		c.config = c.someConfig()
		n := connected(t, c.config, c.config.Conns)
		m := &model{config: c.config, sessions: map[int]int{}}
		for range 150 {
			if c.Intn(8) == 0 {
				n.Tick()
				m.time++
			}
			conn := c.Intn(c.config.Conns)
			q := c.someRequest(conn, m.of)
			got, want := n.serve(conn, q), m.serve(conn, q)
			if !sameReply(got, want) {
				t.Fatalf("P10: seed %d: the reply to %+v is %+v, want %+v", seed, q, got, want)
			}
			met[outcome{want.Kind, want.Err}]++
		}
		for account := range c.config.Accounts {
			n.wantDevices(account, m.of(account)...)
		}
	}
	for _, o := range []outcome{
		{api.Register, api.OK}, {api.Register, api.ErrNone}, {api.Register, api.ErrThere}, {api.Register, api.ErrAuth},
		{api.Login, api.OK}, {api.Login, api.ErrNone}, {api.Login, api.ErrAuth},
		{api.Remove, api.OK}, {api.Remove, api.ErrNone}, {api.Remove, api.ErrAuth},
		{api.Send, api.OK}, {api.Send, api.ErrAuth}, {api.Send, api.ErrNone}, {api.Send, api.ErrMismatch}, {api.Send, api.ErrSpent}, {api.Send, api.ErrQuota},
		{api.Fetch, api.OK}, {api.Fetch, api.ErrAuth}, {api.Ack, api.OK}, {api.Ack, api.ErrAuth},
	} {
		if met[o] < 10 {
			t.Errorf("%+v came %d times: too few to tell anything", o, met[o])
		}
	}
}
