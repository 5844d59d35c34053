package plumbline_test

import (
	"math/rand"
	"slices"
	"sync"
	"testing"

	"plumbline/api"
	"plumbline/plumbline"
)

// TestP2CallsDoNotTouchEachOther: the same questions, forwards and backwards, with wrong ones between, by many at a time.
func TestP2CallsDoNotTouchEachOther(t *testing.T) {
	r := rand.New(rand.NewSource(6))
	for _, q := range questions() {
		l := make([][]api.Point, 100)
		want := make([]int, len(l))
		for i := range l {
			l[i] = drawPoints(r, q.size)
			want[i] = q.want(l[i]...)
		}
		var all sync.WaitGroup
		for k := range 8 {
			wrong := slices.Repeat([]api.Point{{X: wrongBits()[k]}}, q.size)
			all.Go(func() {
				for i := range l {
					if k%2 == 1 {
						i = len(l) - 1 - i
					}
					checkAnswer(t, q, want[i], l[i]...)
					checkWrong(t, q, api.ErrNumber, wrong...)
				}
			})
		}
		all.Wait()
	}
}

// TestP2NoughtHasOneFace: 0 and -0 are the same number, so they have the same answer, in each place.
func TestP2NoughtHasOneFace(t *testing.T) {
	const minus = 1 << 63
	r := rand.New(rand.NewSource(7))
	for _, q := range questions() {
		for range 500 {
			l := drawPoints(r, q.size)
			var zeros []*uint64
			for _, at := range places(l) {
				if r.Intn(2) == 0 {
					*at = 0
					zeros = append(zeros, at)
				}
			}
			want := q.want(l...)
			checkAnswer(t, q, want, l...)
			for _, at := range zeros {
				*at = minus
				checkAnswer(t, q, want, l...)
			}
		}
	}
}

// TestP2ListsAreLeftAlone: neither a list that is handed in nor its spare room is written into, whether the call answers or not.
func TestP2ListsAreLeftAlone(t *testing.T) {
	r := rand.New(rand.NewSource(8))
	for _, length := range []int{0, 1, 5, 100, 101} {
		for _, bits := range append(rightBits(), wrongBits()...) {
			room := drawPoints(r, length+7)
			*places(room)[r.Intn(2*length+1)] = bits
			kept := slices.Clone(room)
			plumbline.Inside(room[:length], drawPoint(r))
			plumbline.Hull(room[:length])
			if !slices.Equal(room, kept) {
				t.Errorf("P2: a list of %d points was written into", length)
			}
		}
	}
}

// TestP2ListsAreNotKept: a list that changes between two calls has the answers of what it holds.
func TestP2ListsAreNotKept(t *testing.T) {
	r := rand.New(rand.NewSource(13))
	l := drawGrid(r, 7, 4)
	for range 2000 {
		l[r.Intn(7)] = l[r.Intn(7)]
		copy(l[r.Intn(7):], drawGrid(r, 1, 4))
		checkAnswer(t, inside(6), insideByRats(l...), l...)
		checkAnswer(t, hull(7), hull(7).want(l...), l...)
	}
}

// TestP2RoomDoesNotMatter: the same points, however much spare room there is behind them.
func TestP2RoomDoesNotMatter(t *testing.T) {
	r := rand.New(rand.NewSource(14))
	for range 500 {
		l := drawGrid(r, 8, 3)
		corners, p := r.Intn(7), l[7]
		want := insideByRats(append(slices.Clone(l[:corners]), p)...)
		for _, same := range [][]api.Point{l[:corners], l[:corners:corners], append([]api.Point(nil), l[:corners]...)} {
			if n, e := plumbline.Inside(same, p); n != want || e != api.OK {
				t.Errorf("P2: Inside(%x, %x) = %d, %d, want %d", same, p, n, e, want)
			}
			checkHull(t, same, hullByRats(same)...)
		}
	}
	for _, none := range [][]api.Point{nil, {}} {
		if n, e := plumbline.Inside(none, pt(0, 0)); n != -1 || e != api.OK {
			t.Errorf("P2: Inside of none = %d, %d, want -1", n, e)
		}
		checkHull(t, none)
	}
}

// TestP2AnswersAreTheCallers: writing into a list that came out, and into its spare room, changes no other list, older or newer.
func TestP2AnswersAreTheCallers(t *testing.T) {
	r := rand.New(rand.NewSource(21))
	for range 500 {
		l := drawGrid(r, r.Intn(12), 4)
		kept, want := slices.Clone(l), hullByRats(l)
		older, _ := plumbline.Hull(l)
		written, _ := plumbline.Hull(l)
		room := written[:cap(written)]
		for i := range room {
			room[i] = 77
		}
		checkHull(t, l, want...)
		if !slices.Equal(older, want) || !slices.Equal(l, kept) {
			t.Errorf("P2: Hull(%x): another list was changed by writing into the answer", kept)
		}
	}
}
