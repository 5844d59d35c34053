package plumbline_test

import (
	"math/rand"
	"slices"
	"sync"
	"testing"

	"plumbline/api"
	"plumbline/plumbline"
)

// TestP2CallsDoNotTouchEachOther: the same questions, forwards and backwards, with wrong ones between, by many at a time.
func TestP2CallsDoNotTouchEachOther(t *testing.T) {
	r := rand.New(rand.NewSource(6))
	l := make([][3]api.Point, 300)
	for i := range l {
		l[i] = drawPoints(r)
	}
	var all sync.WaitGroup
	for k := range 8 {
		all.Go(func() {
			for i := range l {
				if k%2 == 1 {
					i = len(l) - 1 - i
				}
				for _, q := range questions() {
					checkAnswer(t, q, l[i], q.want(l[i][0], l[i][1], l[i][2]))
					q.ask(api.Point{X: wrongBits()[k]}, l[i][1], l[i][2])
				}
			}
		})
	}
	all.Wait()
}

// TestP2NoughtHasOneFace: 0 and -0 are the same number, so they have the same answer, in each place.
func TestP2NoughtHasOneFace(t *testing.T) {
	const minus = 1 << 63
	r := rand.New(rand.NewSource(7))
	for range 500 {
		l := drawPoints(r)
		var zeros []int
		for i := range 6 {
			if r.Intn(2) == 0 {
				*places(&l)[i] = 0
				zeros = append(zeros, i)
			}
		}
		for _, q := range questions() {
			want := q.want(l[0], l[1], l[2])
			checkAnswer(t, q, l, want)
			changed := l
			for _, i := range zeros {
				*places(&changed)[i] = minus
				checkAnswer(t, q, changed, want)
			}
		}
	}
}

// TestP2ListsAreLeftAlone: neither a list that is handed in nor its spare room is written into.
func TestP2ListsAreLeftAlone(t *testing.T) {
	r := rand.New(rand.NewSource(8))
	for _, length := range []int{0, 1, 5, 100, 101} {
		room := make([]api.Point, length+7)
		for i := range room {
			room[i] = drawPoint(r)
		}
		kept := slices.Clone(room)
		plumbline.Inside(room[:length], drawPoint(r))
		plumbline.Hull(room[:length])
		if !slices.Equal(room, kept) {
			t.Errorf("P2: a list of %d points was written into", length)
		}
	}
}
