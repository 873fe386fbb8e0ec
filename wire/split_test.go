package wire_test

import (
	"math/rand"
	"runtime"
	"slices"
	"strings"
	"sync"
	"testing"
	"time"

	"rookery/api"
	"rookery/wire"
)

// framed puts a length ahead of a body.
func framed(body string) string {
	return bytesText(byte(len(body)>>8), byte(len(body))) + body
}

func wantSplit(t *testing.T, chunks, bodies []string, rest string, e api.Errno) {
	t.Helper()
	gotBodies, gotRest, gotErr := wire.Split(chunks)
	if !slices.Equal(gotBodies, bodies) || gotRest != rest || gotErr != e {
		t.Errorf("P5: Split(%q) = %q, %q, %d, want %q, %q, %d", chunks, gotBodies, gotRest, gotErr, bodies, rest, e)
	}
}

// wantEveryCut asks for the same answer wherever the stream is cut.
func wantEveryCut(t *testing.T, stream string, bodies []string, rest string, e api.Errno) {
	t.Helper()
	wantSplit(t, []string{stream}, bodies, rest, e)
	for i := range len(stream) + 1 {
		for j := i; j <= len(stream); j++ {
			wantSplit(t, []string{stream[:i], stream[i:j], stream[j:]}, bodies, rest, e)
		}
	}
	wantSplit(t, spread(stream), bodies, rest, e)
}

// spread makes texts of one byte each, with an empty one ahead of each and one at the end.
func spread(stream string) []string {
	var chunks []string
	for i := range len(stream) {
		chunks = append(chunks, "", stream[i:i+1])
	}
	return append(chunks, "")
}

func TestSplitNothing(t *testing.T) {
	for _, chunks := range [][]string{nil, {}, {""}, {"", "", ""}} {
		bodies, rest, e := wire.Split(chunks)
		if len(bodies) != 0 || rest != "" || e != api.OK {
			t.Errorf("P5: Split(%q) = %q, %q, %d, want nothing", chunks, bodies, rest, e)
		}
	}
}

func TestSplitOfTheDocument(t *testing.T) {
	wantSplit(t, []string{"\x00", "\x02\x03\x03\x00"}, []string{"\x03\x03"}, "\x00", api.OK)
}

func TestSplitEveryCut(t *testing.T) {
	three := framed("a") + framed("\x00\x00\x00") + framed("frame")
	bodies := []string{"a", "\x00\x00\x00", "frame"}
	for _, c := range []struct {
		stream string
		bodies []string
		rest   string
		e      api.Errno
	}{
		{three, bodies, "", api.OK},
		{three + "\x00", bodies, "\x00", api.OK},
		{three + "\xff", bodies, "\xff", api.OK},
		{three + "\x00\x01", bodies, "\x00\x01", api.OK},
		{three + "\x00\x03ab", bodies, "\x00\x03ab", api.OK},
		{three + "\x00\x00", bodies, "", api.ErrFrame},
		{three + "\x00\x00" + three, bodies, "", api.ErrFrame},
		{three + "\x00\x41" + three, bodies, "", api.ErrFrame},
		{three + "\x01\x00", bodies, "", api.ErrFrame},
		{three + "\x01\x01a", bodies, "", api.ErrFrame},
		{"\x00\x00", nil, "", api.ErrFrame},
		{"\xff\xff", nil, "", api.ErrFrame},
		{"\x00\x00\x00\x01a", nil, "", api.ErrFrame},
	} {
		wantEveryCut(t, c.stream, c.bodies, c.rest, c.e)
	}
}

// Every length that two bytes can tell, with no body, a body but for its last byte, a whole one, and a byte more.
func TestSplitEveryLength(t *testing.T) {
	for n := range 1 << 16 {
		length := bytesText(byte(n>>8), byte(n))
		if n == 0 || n > api.MaxBody {
			wantSplit(t, []string{framed("a"), length}, []string{"a"}, "", api.ErrFrame)
			continue
		}
		body := strings.Repeat("\x00", n)
		wantSplit(t, []string{framed("a"), length}, []string{"a"}, length, api.OK)
		wantSplit(t, []string{framed("a") + length, body[1:]}, []string{"a"}, length+body[1:], api.OK)
		wantSplit(t, []string{framed("a") + length, body}, []string{"a", body}, "", api.OK)
		wantSplit(t, []string{framed("a") + length, body + "\x07"}, []string{"a", body}, "\x07", api.OK)
	}
	wantSplit(t, []string{framed(strings.Repeat("x", 65535))}, nil, "", api.ErrFrame)
}

// A body need not be a request: Split does not look into it.
func TestSplitBodiesThatAreNoRequests(t *testing.T) {
	wantSplit(t, []string{framed("\x07") + framed("\x00\x00") + framed("\xff\xff\xff")}, []string{"\x07", "\x00\x00", "\xff\xff\xff"}, "", api.OK)
}

func TestSplitWhatEncodeWrites(t *testing.T) {
	stream := ""
	for _, r := range ordinary() {
		stream += mustEncode(t, r)
	}
	bodies, rest, e := wire.Split(spread(stream))
	if len(bodies) != len(ordinary()) || rest != "" || e != api.OK {
		t.Fatalf("P5: %d bodies, the rest %q, %d", len(bodies), rest, e)
	}
	for i, r := range ordinary() {
		if back, e := wire.Decode(bodies[i]); e != api.OK || !sameRequest(back, r) {
			t.Errorf("P4, P5: the body %d is %+v, %d, want %+v", i, back, e, r)
		}
	}
}

func TestSplitDrawn(t *testing.T) {
	draw := rand.New(rand.NewSource(5))
	for range 2000 {
		var bodies, chunks []string
		stream := ""
		for range draw.Intn(8) {
			body := make([]byte, 1+draw.Intn(api.MaxBody))
			draw.Read(body)
			bodies = append(bodies, string(body))
			stream += framed(string(body))
		}
		rest, e := "", api.OK
		switch draw.Intn(3) {
		case 0:
			rest = framed(strings.Repeat("r", api.MaxBody))[:draw.Intn(api.MaxBody+2)]
			stream += rest
		case 1:
			e = api.ErrFrame
			stream += framed(strings.Repeat("r", api.MaxBody+1+draw.Intn(1000)))
		}
		for left := stream; left != ""; {
			n := draw.Intn(min(len(left), 100) + 1)
			chunks, left = append(chunks, left[:n]), left[n:]
		}
		wantSplit(t, chunks, bodies, rest, e)
	}
}

func TestSplitALongStream(t *testing.T) {
	const frames = 20_000
	frame := framed("letter")
	whole := strings.Repeat(frame, frames)
	for _, chunks := range [][]string{{whole}, slices.Repeat([]string{frame}, frames), {whole[:7], whole[7:]}} {
		bodies, rest, e := wire.Split(chunks)
		if len(bodies) != frames || rest != "" || e != api.OK {
			t.Errorf("P5: %d bodies, the rest %q, %d, want %d", len(bodies), rest, e, frames)
		}
	}
}

func TestSplitLeavesTheChunksAlone(t *testing.T) {
	room := []string{framed("one"), "\x00", "\x05short", "spare"}
	before := slices.Clone(room)
	wantSplit(t, room[:3], []string{"one", "short"}, "", api.OK)
	if !slices.Equal(room, before) {
		t.Errorf("P2: Split changed the chunks to %q", room)
	}
}

// What Split answers may be written into, and keeps nothing of the chunks.
func TestSplitGivesNewMemory(t *testing.T) {
	chunk := framed("first body") + framed("second body") + "\x00\x20the rest"
	first, _, _ := wire.Split([]string{chunk})
	second, rest, _ := wire.Split([]string{chunk})
	for i := range first[:cap(first)] {
		first[:cap(first)][i] = "changed"
	}
	if !slices.Equal(second, []string{"first body", "second body"}) {
		t.Errorf("P2: bodies of one answer are seen in another: %q", second)
	}
	for _, s := range append(second, rest) {
		if within(s, chunk) {
			t.Errorf("P2: %q is a piece of a chunk", s)
		}
	}
}

func TestSplitEndsItsGoroutines(t *testing.T) {
	before := runtime.NumGoroutine()
	for range 200 {
		wire.Split([]string{framed("a"), "\x00"})
		wire.Split([]string{"\x00\x00", framed("a"), framed("b")})
		wire.Split(nil)
	}
	for range 200 {
		if runtime.NumGoroutine() <= before {
			return
		}
		time.Sleep(5 * time.Millisecond)
	}
	t.Errorf("P1: %d goroutines ahead, %d behind", before, runtime.NumGoroutine())
}

func TestSplitManyAtOnce(t *testing.T) {
	var all sync.WaitGroup
	for i := range 16 {
		all.Add(1)
		go func() {
			defer all.Done()
			body := strings.Repeat(bytesText(byte(i)), i+1)
			for range 100 {
				wantSplit(t, spread(framed(body)+framed(body)+"\x00"), []string{body, body}, "\x00", api.OK)
			}
		}()
	}
	all.Wait()
}
