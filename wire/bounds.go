package wire

import "rookery/api"

// The greatest numbers that one, two and four bytes hold.
const (
	maxOne  = 1<<8 - 1
	maxTwo  = 1<<16 - 1
	maxFour = 1<<32 - 1
)

// bounds tells how great each part of a request may be (how long, of a list or a text). What a kind does not have is left at zero, so that one comparison asks for both: that a part is in its bounds, and that a part which is not there is zero.
type bounds struct {
	account, device, reg, cursor, most int
	claims, text                       int
	key, mac                           bool
}

// boundsOf tells the bounds of a kind, and whether it is one.
func boundsOf(kind int) (bounds, bool) {
	switch kind {
	case api.Register:
		return bounds{account: maxOne, device: maxOne, key: true, reg: maxTwo}, true
	case api.Login:
		return bounds{account: maxOne, device: maxOne, mac: true}, true
	case api.Remove:
		return bounds{device: maxOne}, true
	case api.Send:
		return bounds{account: maxOne, claims: api.MaxClaims, text: api.MaxText}, true
	case api.Fetch:
		return bounds{cursor: maxFour, most: maxOne}, true
	case api.Ack:
		return bounds{cursor: maxFour}, true
	}
	return bounds{}, false
}

// mayBe tells whether a request may be.
func mayBe(r api.Request) bool {
	b, isKind := boundsOf(r.Kind)
	return isKind && b.holdNumbers(r) && b.holdArrays(r) &&
		len(r.Text) <= b.text && len(r.Claims) <= b.claims && claimsMayBe(r.Claims)
}

func (b bounds) holdNumbers(r api.Request) bool {
	return within(r.Account, b.account) && within(r.Device, b.device) && within(r.Reg, b.reg) &&
		within(r.Cursor, b.cursor) && within(r.Most, b.most)
}

func (b bounds) holdArrays(r api.Request) bool {
	return (b.key || r.Key == [16]byte{}) && (b.mac || r.Mac == [8]byte{})
}

func claimsMayBe(claims []api.Claim) bool {
	last := -1
	for _, c := range claims {
		if c.Device <= last || !within(c.Device, maxOne) || !within(c.Reg, maxTwo) {
			return false
		}
		last = c.Device
	}
	return true
}

func within(n, most int) bool {
	return 0 <= n && n <= most
}
