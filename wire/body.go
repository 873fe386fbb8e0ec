package wire

import (
	"strings"

	"rookery/api"
)

// How many bytes the numbers of a frame have.
const (
	lengthSize = 2
	regSize    = 2
	cursorSize = 4
)

// writeBody writes the body of a request that may be: its numbers are not looked at again.
func writeBody(r api.Request) []byte {
	body := []byte{byte(r.Kind)}
	switch r.Kind {
	case api.Register:
		body = append(body, byte(r.Account), byte(r.Device))
		body = append(body, r.Key[:]...)
		body = appendNumber(body, r.Reg, regSize)
	case api.Login:
		body = append(body, byte(r.Account), byte(r.Device))
		body = append(body, r.Mac[:]...)
	case api.Remove:
		body = append(body, byte(r.Device))
	case api.Send:
		body = append(body, byte(r.Account))
		body = appendClaims(body, r.Claims)
		body = append(body, byte(len(r.Text)))
		body = append(body, r.Text...)
	case api.Fetch:
		body = appendNumber(body, r.Cursor, cursorSize)
		body = append(body, byte(r.Most))
	case api.Ack:
		body = appendNumber(body, r.Cursor, cursorSize)
	}
	return body
}

func appendClaims(body []byte, claims []api.Claim) []byte {
	body = append(body, byte(len(claims)))
	for _, c := range claims {
		body = append(body, byte(c.Device))
		body = appendNumber(body, c.Reg, regSize)
	}
	return body
}

// appendNumber writes a number of so many bytes, the highest first.
func appendNumber(to []byte, n, size int) []byte {
	for i := size - 1; i >= 0; i-- {
		to = append(to, byte(n>>(8*i)))
	}
	return to
}

// readBody reads a body, and tells whether the request took just all of it. It does not ask whether such a request may be.
func readBody(body string) (api.Request, bool) {
	in := input{left: body}
	r := api.Request{Kind: in.number(1)}
	switch r.Kind {
	case api.Register:
		r.Account, r.Device = in.number(1), in.number(1)
		copy(r.Key[:], in.take(len(r.Key)))
		r.Reg = in.number(regSize)
	case api.Login:
		r.Account, r.Device = in.number(1), in.number(1)
		copy(r.Mac[:], in.take(len(r.Mac)))
	case api.Remove:
		r.Device = in.number(1)
	case api.Send:
		r.Account = in.number(1)
		r.Claims = in.claims()
		r.Text = in.text()
	case api.Fetch:
		r.Cursor = in.number(cursorSize)
		r.Most = in.number(1)
	case api.Ack:
		r.Cursor = in.number(cursorSize)
	}
	return r, !in.short && in.left == ""
}

// input is what is left of a body; it is short from then on when more was asked for than there was, so that only the end needs to be looked at.
type input struct {
	left  string
	short bool
}

func (in *input) take(n int) string {
	if in.short || n > len(in.left) {
		in.short = true
		return ""
	}
	taken := in.left[:n]
	in.left = in.left[n:]
	return taken
}

// number reads a number of so many bytes, the highest first.
func (in *input) number(size int) int {
	taken := in.take(size)
	n := 0
	for i := 0; i < len(taken); i++ {
		n = n<<8 | int(taken[i])
	}
	return n
}

func (in *input) claims() []api.Claim {
	var claims []api.Claim
	for range in.number(1) {
		device := in.number(1)
		claims = append(claims, api.Claim{Device: device, Reg: in.number(regSize)})
	}
	return claims
}

// text is a copy: a piece of the body would keep all of it.
func (in *input) text() string {
	return strings.Clone(in.take(in.number(1)))
}
