package wire_test

import (
	"math"
	"math/rand"
	"reflect"
	"slices"
	"strings"
	"testing"
	"unsafe"

	"rookery/api"
	"rookery/wire"
)

// The bytes of a frame are told as numbers.
func bytesText(numbers ...byte) string { return string(numbers) }

func sameRequest(a, b api.Request) bool {
	if len(a.Claims) == 0 && len(b.Claims) == 0 {
		a.Claims, b.Claims = nil, nil
	}
	return reflect.DeepEqual(a, b)
}

func risingClaims(n int) []api.Claim {
	var claims []api.Claim
	for i := range n {
		claims = append(claims, api.Claim{Device: 3 * i, Reg: 1000 * i})
	}
	return claims
}

func mustEncode(t *testing.T, r api.Request) string {
	t.Helper()
	frame, e := wire.Encode(r)
	if e != api.OK {
		t.Fatalf("P4: Encode(%+v): %d", r, e)
	}
	return frame
}

func wantBadRequest(t *testing.T, r api.Request) {
	t.Helper()
	if frame, e := wire.Encode(r); frame != "" || e != api.ErrBad {
		t.Errorf("P4: Encode(%+v) = %v, %d, want ErrBad", r, []byte(frame), e)
	}
}

func wantBadBody(t *testing.T, body string) {
	t.Helper()
	if r, e := wire.Decode(body); e != api.ErrBad || !reflect.DeepEqual(r, api.Request{}) {
		t.Errorf("P4: Decode(%v) = %+v, %d, want ErrBad", []byte(body), r, e)
	}
}

// wantThere asks that a request is written and read as itself.
func wantThere(t *testing.T, r api.Request) {
	t.Helper()
	frame, e := wire.Encode(r)
	if e != api.OK || len(frame) < 3 {
		t.Errorf("P4: Encode(%+v) = %v, %d, want a frame", r, []byte(frame), e)
		return
	}
	if n := int(frame[0])<<8 | int(frame[1]); n != len(frame)-2 || n > api.MaxBody {
		t.Errorf("P4: Encode(%+v): a length of %d, of a body of %d bytes", r, n, len(frame)-2)
	}
	if back, e := wire.Decode(frame[2:]); e != api.OK || !sameRequest(back, r) {
		t.Errorf("P4: Decode(%v) = %+v, %d, want %+v", []byte(frame[2:]), back, e, r)
	}
}

// ordinary is a request of each kind, in which all that the kind has is not zero.
func ordinary() []api.Request {
	key := [16]byte{1, 2, 3, 4, 5, 6, 7, 8, 9, 10, 11, 12, 13, 14, 15, 16}
	mac := [8]byte{21, 22, 23, 24, 25, 26, 27, 28}
	return []api.Request{
		{Kind: api.Register, Account: 31, Device: 32, Key: key, Reg: 0x2122},
		{Kind: api.Login, Account: 33, Device: 34, Mac: mac},
		{Kind: api.Remove, Device: 35},
		{Kind: api.Send, Account: 36, Claims: []api.Claim{{Device: 1, Reg: 0x2324}, {Device: 9, Reg: 0x2526}}, Text: "caw"},
		{Kind: api.Fetch, Cursor: 0x27282930, Most: 37},
		{Kind: api.Ack, Cursor: 0x31323334},
	}
}

func TestKnownFrames(t *testing.T) {
	want := []string{
		bytesText(0, 21, 1, 31, 32, 1, 2, 3, 4, 5, 6, 7, 8, 9, 10, 11, 12, 13, 14, 15, 16, 0x21, 0x22),
		bytesText(0, 11, 2, 33, 34, 21, 22, 23, 24, 25, 26, 27, 28),
		bytesText(0, 2, 3, 35),
		bytesText(0, 13, 4, 36, 2, 1, 0x23, 0x24, 9, 0x25, 0x26, 3, 'c', 'a', 'w'),
		bytesText(0, 6, 5, 0x27, 0x28, 0x29, 0x30, 37),
		bytesText(0, 5, 6, 0x31, 0x32, 0x33, 0x34),
	}
	for i, r := range ordinary() {
		if frame := mustEncode(t, r); frame != want[i] {
			t.Errorf("P4: Encode(%+v) = %v, want %v", r, []byte(frame), []byte(want[i]))
		}
		wantThere(t, r)
	}
}

func TestFramesOfTheDocument(t *testing.T) {
	hi := api.Request{Kind: api.Send, Account: 1, Claims: []api.Claim{{Device: 0, Reg: 5}, {Device: 2, Reg: 258}}, Text: "hi"}
	for _, c := range []struct {
		r    api.Request
		want string
	}{
		{api.Request{Kind: api.Remove, Device: 3}, bytesText(0, 2, 3, 3)},
		{api.Request{Kind: api.Ack, Cursor: 258}, bytesText(0, 5, 6, 0, 0, 1, 2)},
		{hi, bytesText(0, 12, 4, 1, 2, 0, 0, 5, 2, 1, 2, 2, 'h', 'i')},
	} {
		if frame := mustEncode(t, c.r); frame != c.want {
			t.Errorf("P4: Encode(%+v) = %v, want %v", c.r, []byte(frame), []byte(c.want))
		}
		wantThere(t, c.r)
	}
}

// number is one of the numbers of a request: where it stands, which kinds have it, and the greatest that it may be.
type number struct {
	name  string
	of    func(*api.Request) *int
	kinds []int
	most  int
}

func numbers() []number {
	return []number{
		{"Account", func(r *api.Request) *int { return &r.Account }, []int{api.Register, api.Login, api.Send}, 255},
		{"Device", func(r *api.Request) *int { return &r.Device }, []int{api.Register, api.Login, api.Remove}, 255},
		{"Reg", func(r *api.Request) *int { return &r.Reg }, []int{api.Register}, 65535},
		{"Cursor", func(r *api.Request) *int { return &r.Cursor }, []int{api.Fetch, api.Ack}, 1<<32 - 1},
		{"Most", func(r *api.Request) *int { return &r.Most }, []int{api.Fetch}, 255},
	}
}

func TestBoundsOfNumbers(t *testing.T) {
	for _, n := range numbers() {
		for _, r := range ordinary() {
			most := 0
			if slices.Contains(n.kinds, r.Kind) {
				most = n.most
			}
			for _, good := range []int{0, most / 2, most} {
				*n.of(&r) = good
				wantThere(t, r)
			}
			for _, bad := range []int{-1, most + 1, most + 256, most + 65536, 1 << 32, -1 << 32, 1 << 40, math.MaxInt, math.MinInt} {
				*n.of(&r) = bad
				wantBadRequest(t, r)
			}
		}
	}
}

// What a kind does not have must be zero; what it has may be anything.
func TestPartsThatAKindDoesNotHave(t *testing.T) {
	for _, r := range ordinary() {
		for i := range r.Key {
			with := r
			with.Key = [16]byte{}
			with.Key[i] = 255
			if r.Kind == api.Register {
				wantThere(t, with)
			} else {
				wantBadRequest(t, with)
			}
		}
		for i := range r.Mac {
			with := r
			with.Mac = [8]byte{}
			with.Mac[i] = 255
			if r.Kind == api.Login {
				wantThere(t, with)
			} else {
				wantBadRequest(t, with)
			}
		}
		if r.Kind == api.Send {
			continue
		}
		with := r
		with.Text = "\x00"
		wantBadRequest(t, with)
		with = r
		with.Claims = []api.Claim{{}}
		wantBadRequest(t, with)
		with.Claims = []api.Claim{}
		wantThere(t, with)
	}
}

func TestKinds(t *testing.T) {
	for _, kind := range []int{0, -1, 7, 8, 255, 256, 256 + api.Remove, math.MaxInt, math.MinInt} {
		wantBadRequest(t, api.Request{Kind: kind})
	}
	for kind := api.Register; kind <= api.Ack; kind++ {
		wantThere(t, api.Request{Kind: kind})
	}
}

func TestClaims(t *testing.T) {
	send := func(claims ...api.Claim) api.Request { return api.Request{Kind: api.Send, Claims: claims} }
	for n := range api.MaxClaims + 1 {
		wantThere(t, send(risingClaims(n)...))
	}
	for _, n := range []int{api.MaxClaims + 1, 2 * api.MaxClaims} {
		wantBadRequest(t, send(risingClaims(n)...))
	}
	var many []api.Claim
	for i := range 256 + 2 {
		many = append(many, api.Claim{Device: i})
	}
	wantBadRequest(t, send(many[:256]...))
	wantBadRequest(t, send(many...))
	for _, good := range [][]api.Claim{
		{{Device: 0, Reg: 0}}, {{Device: 255, Reg: 65535}}, {{Device: 0, Reg: 9}, {Device: 1, Reg: 8}}, {{Device: 254}, {Device: 255}},
	} {
		wantThere(t, send(good...))
	}
	for _, bad := range [][]api.Claim{
		{{Device: -1}}, {{Device: 256}}, {{Device: math.MaxInt}}, {{Device: math.MinInt}},
		{{Reg: -1}}, {{Reg: 65536}}, {{Reg: math.MaxInt}}, {{Reg: math.MinInt}},
		{{Device: 1}, {Device: 1}}, {{Device: 1, Reg: 1}, {Device: 1, Reg: 2}}, {{Device: 2}, {Device: 1}},
		{{Device: 1}, {Device: 3}, {Device: 2}}, {{Device: 1}, {Device: 2}, {Device: 256}}, {{Device: 1}, {Device: 2, Reg: 65536}},
		{{Device: -2}, {Device: -1}},
	} {
		wantBadRequest(t, send(bad...))
	}
}

func TestTexts(t *testing.T) {
	send := func(text string) api.Request { return api.Request{Kind: api.Send, Text: text} }
	for n := range api.MaxText + 1 {
		wantThere(t, send(strings.Repeat("x", n)))
		wantThere(t, send(strings.Repeat("\x00", n)))
		wantThere(t, send(strings.Repeat("\xff", n)))
	}
	wantThere(t, send("räbe krähe"))
	for _, n := range []int{api.MaxText + 1, 255, 256, 256 + api.MaxText, 1 << 16} {
		wantBadRequest(t, send(strings.Repeat("x", n)))
	}
	// Bytes are counted, not letters: nine of two bytes are too many.
	wantBadRequest(t, send(strings.Repeat("ä", 9)))
	wantThere(t, api.Request{Kind: api.Send, Account: 255, Claims: risingClaims(api.MaxClaims), Text: strings.Repeat("x", api.MaxText)})
}

func TestBodiesCutOrTooLong(t *testing.T) {
	requests := append(ordinary(), api.Request{Kind: api.Send}, api.Request{Kind: api.Send, Claims: risingClaims(api.MaxClaims), Text: strings.Repeat("x", api.MaxText)})
	for _, r := range requests {
		body := mustEncode(t, r)[2:]
		for n := range len(body) {
			wantBadBody(t, body[:n])
		}
		wantBadBody(t, body+"\x00")
		wantBadBody(t, body+body)
		wantBadBody(t, body+strings.Repeat("\xff", 1000))
	}
}

func TestBodiesThatAreNone(t *testing.T) {
	nine := bytesText(4, 0, 9)
	for i := range 9 {
		nine += bytesText(byte(i), 0, 0)
	}
	for _, body := range []string{
		"", bytesText(0), bytesText(7), bytesText(255), bytesText(0, 0), bytesText(7, 3), bytesText(255, 255, 255, 255),
		bytesText(4, 0, 2, 1, 0, 0, 1, 0, 0, 0), // a device twice
		bytesText(4, 0, 2, 2, 0, 0, 1, 0, 0, 0), // devices that fall
		nine + "\x00",                           // more than MaxClaims
		bytesText(4, 0, 255),
		bytesText(4, 0, 0, 17) + strings.Repeat("x", 17), // more than MaxText
		bytesText(4, 0, 0, 255) + strings.Repeat("x", 255),
		bytesText(4, 0, 0, 2, 'x'),
		bytesText(4, 0, 0, 1, 'x', 'x'),
		mustEncode(t, api.Request{Kind: api.Remove}), // a frame is no body
	} {
		wantBadBody(t, body)
	}
}

// Whatever the bytes are: a body is one way only to write its request.
func TestDrawnBodies(t *testing.T) {
	draw := rand.New(rand.NewSource(4))
	requests := append(ordinary(), api.Request{Kind: api.Send, Claims: risingClaims(api.MaxClaims), Text: strings.Repeat("x", api.MaxText)})
	good := 0
	for range 100_000 {
		body := []byte(mustEncode(t, requests[draw.Intn(len(requests))])[2:])
		for range draw.Intn(3) {
			body[draw.Intn(len(body))] = byte(draw.Intn(256) >> draw.Intn(8))
		}
		if draw.Intn(4) == 0 {
			body = body[:draw.Intn(len(body)+1)]
		}
		r, e := wire.Decode(string(body))
		if e == api.OK {
			good++
			if frame := mustEncode(t, r); frame != bytesText(0, byte(len(body)))+string(body) {
				t.Fatalf("P4: Decode(%v) = %+v, which is written as %v", body, r, []byte(frame))
			}
			continue
		}
		wantBadBody(t, string(body))
	}
	if good < 10_000 {
		t.Errorf("only %d of the drawn bodies were requests", good)
	}
}

func TestEncodeLeavesTheClaimsAlone(t *testing.T) {
	room := []api.Claim{{Device: 1, Reg: 2}, {Device: 3, Reg: 4}, {Device: 5, Reg: 6}}
	before := slices.Clone(room)
	mustEncode(t, api.Request{Kind: api.Send, Claims: room[:2], Text: "hi"})
	if !slices.Equal(room, before) {
		t.Errorf("P2: Encode changed the claims to %v", room)
	}
}

// What Decode answers may be written into, and keeps nothing of the body.
func TestDecodeGivesNewMemory(t *testing.T) {
	want := api.Request{Kind: api.Send, Claims: risingClaims(3), Text: "sixteen letters."}
	body := mustEncode(t, want)[2:]
	first, _ := wire.Decode(body)
	second, _ := wire.Decode(body)
	for i := range first.Claims[:cap(first.Claims)] {
		first.Claims[:cap(first.Claims)][i] = api.Claim{Device: 99, Reg: 99}
	}
	if third, e := wire.Decode(body); e != api.OK || !sameRequest(second, want) || !sameRequest(third, want) {
		t.Errorf("P2: claims of one answer are seen in another: %+v, %+v", second, third)
	}
	if within(second.Text, body) {
		t.Error("P2: the text is a piece of the body")
	}
}

// within tells whether a text lies in the memory of another one.
func within(piece, whole string) bool {
	at := uintptr(unsafe.Pointer(unsafe.StringData(piece)))
	from := uintptr(unsafe.Pointer(unsafe.StringData(whole)))
	return from <= at && at < from+uintptr(len(whole))
}
