package past

import (
	"fmt"
	"math"
	"runtime"
	"slices"
	"testing"
	"weak"

	"layercake/api"
)

// mixer makes mixed numbers, the same ones at each run.
type mixer uint64

func (m *mixer) below(n int) int {
	*m = *m*6364136223846793005 + 1442695040888963407
	return int(*m>>33) % n
}

// made: a past, of bounds that are right.
func made[T any](t *testing.T, first T, most int) *Past[T] {
	t.Helper()
	p, err := New(first, most)
	if err != nil || p == nil {
		t.Fatalf("most %d: %v, %v", most, p, err)
	}
	return p
}

// is: what is now, and how many are kept.
func is[T comparable](t *testing.T, name any, p *Past[T], now T, back, forth int) {
	t.Helper()
	if b, f := p.Kept(); p.Now() != now || b != back || f != forth {
		t.Errorf("%v: %v, %d back and %d forth, want %v, %d and %d", name, p.Now(), b, f, now, back, forth)
	}
}

// steps: asked one by one, whether there is something, and what is now.
func steps[T comparable](t *testing.T, name string, ask func() bool, p *Past[T], want ...T) {
	t.Helper()
	for i, x := range want {
		if !ask() || p.Now() != x {
			t.Errorf("%s %d: %v, want %v", name, i, p.Now(), x)
		}
	}
	now := p.Now()
	for range 3 {
		back, forth := p.Kept()
		if ask() {
			t.Errorf("%s: more than %d", name, len(want))
		}
		is(t, name, p, now, back, forth)
	}
}

// P150

func TestNew(t *testing.T) {
	for most := 0; most <= 20; most++ {
		p := made(t, "first", most)
		is(t, most, p, "first", 0, 0)
		steps(t, "undo", p.Undo, p)
		steps(t, "redo", p.Redo, p)
	}
}

func TestBounds(t *testing.T) {
	for _, most := range []int{-1, -2, -20, 21, 22, 40, 256, 1 << 31, -1 << 31, 1 << 32, 1<<32 + 1, -1 << 32, math.MaxInt, math.MinInt, math.MaxInt - 1, math.MinInt + 1} {
		if p, err := New(1, most); p != nil || err != api.ErrBound {
			t.Errorf("%d: %v, %v", most, p, err)
		}
	}
	for most := -300; most <= 300; most++ {
		isRight := most >= 0 && most <= api.MaxUndo
		if p, err := New(struct{}{}, most); (p != nil) != isRight || (err == nil) != isRight {
			t.Errorf("%d: %v, %v", most, p, err)
		}
	}
}

func TestMostAreKept(t *testing.T) {
	for most := 0; most <= api.MaxUndo; most++ {
		for done := 0; done <= 45; done++ {
			name := fmt.Sprintf("%d done, most %d", done, most)
			p := made(t, 0, most)
			for i := range done {
				is(t, name, p, i, min(i, most), 0)
				p.Do(i + 1)
			}
			kept := min(done, most)
			is(t, name, p, done, kept, 0)
			var back, forth []int
			for i := 1; i <= kept; i++ {
				back, forth = append(back, done-i), append(forth, done-kept+i)
			}
			steps(t, name+": undo", p.Undo, p, back...)
			is(t, name, p, done-kept, 0, kept)
			steps(t, name+": redo", p.Redo, p, forth...)
			is(t, name, p, done, kept, 0)
		}
	}
}

func TestNoneAreKept(t *testing.T) {
	p := made(t, 1, 0)
	for i := range 50 {
		p.Do(i)
		is(t, i, p, i, 0, 0)
		steps(t, "undo", p.Undo, p)
		steps(t, "redo", p.Redo, p)
	}
}

func TestUndoneIsGone(t *testing.T) {
	for undone := 0; undone <= 5; undone++ {
		for redone := 0; redone <= undone; redone++ {
			p := made(t, 0, 5)
			for i := range 5 {
				p.Do(i + 1)
			}
			for range undone {
				p.Undo()
			}
			for range redone {
				p.Redo()
			}
			now := 5 - undone + redone
			is(t, undone, p, now, now, undone-redone)
			p.Do(99)
			kept := min(now+1, 5)
			is(t, undone, p, 99, kept, 0)
			steps(t, "redo", p.Redo, p)
			var back []int
			for i := range kept {
				back = append(back, now-i)
			}
			steps(t, "undo", p.Undo, p, back...)
		}
	}
}

// The last one that was undone comes again first, and what comes again can be undone.
func TestBackAndForth(t *testing.T) {
	p := made(t, "a", 3)
	for _, x := range []string{"b", "c", "d", "e", "f"} {
		p.Do(x)
	}
	steps(t, "undo", p.Undo, p, "e", "d", "c")
	is(t, "undone", p, "c", 0, 3)
	if !p.Redo() || !p.Redo() || !p.Undo() || !p.Redo() || !p.Undo() {
		t.Error("nothing is there")
	}
	is(t, "between", p, "d", 1, 2)
	steps(t, "redo", p.Redo, p, "e", "f")
	p.Do("g")
	is(t, "done", p, "g", 3, 0)
	steps(t, "undo", p.Undo, p, "f", "e", "d")
}

// What is done need not be another one than what is now.
func TestAlike(t *testing.T) {
	p := made(t, 7, 4)
	for i := range 10 {
		p.Do(7)
		is(t, i, p, 7, min(i+1, 4), 0)
	}
	steps(t, "undo", p.Undo, p, 7, 7, 7, 7)
	is(t, "undone", p, 7, 0, 4)
}

func TestAgainstSlowWay(t *testing.T) {
	m := mixer(3)
	for most := 0; most <= api.MaxUndo; most++ {
		for run := range 30 {
			p, s := made(t, -1, most), slowNew(-1, most)
			// Some runs mostly do, others mostly go back and forth.
			doing := 1 + m.below(8)
			for i := range 200 {
				name := fmt.Sprintf("most %d, run %d, step %d", most, run, i)
				got, want := true, true
				switch n := m.below(doing + 6); {
				case n < doing:
					p.Do(i)
					s.do(i)
				case n < doing+4:
					got, want = p.Undo(), s.undo()
				default:
					got, want = p.Redo(), s.redo()
				}
				if got != want {
					t.Fatalf("%s: %v, want %v", name, got, want)
				}
				is(t, name, p, s.now, len(s.back), len(s.forth))
			}
		}
	}
}

func TestManyDone(t *testing.T) {
	p := made(t, 0, 20)
	for i := range 100000 {
		p.Do(i)
	}
	is(t, "done", p, 99999, 20, 0)
}

func TestAnyType(t *testing.T) {
	type place struct {
		x, y int
		name string
	}
	p := made(t, place{1, 2, "a"}, 2)
	p.Do(place{3, 4, "b"})
	p.Do(place{})
	steps(t, "undo", p.Undo, p, place{3, 4, "b"}, place{1, 2, "a"})
	steps(t, "redo", p.Redo, p, place{3, 4, "b"}, place{})

	var none error
	e := made(t, none, 2)
	e.Do(api.ErrSum)
	e.Do(nil)
	steps(t, "undo", e.Undo, e, api.ErrSum, nil)
	steps(t, "redo", e.Redo, e, api.ErrSum, nil)

	big := made(t, [3][5]uint16{{1}, {2}}, 1)
	big.Do([3][5]uint16{2: {4: 9}})
	steps(t, "undo", big.Undo, big, [3][5]uint16{{1}, {2}})

	empty := made(t, struct{}{}, 3)
	for range 5 {
		empty.Do(struct{}{})
	}
	is(t, "empty", empty, struct{}{}, 3, 0)

	add := made(t, func(n int) int { return n + 1 }, 1)
	add.Do(func(n int) int { return n + 2 })
	if add.Now()(1) != 3 || !add.Undo() || add.Now()(1) != 2 {
		t.Error("functions")
	}

	lists := made(t, []int(nil), 20)
	lists.Do([]int{1, 2})
	lists.Do([]int{})
	if !lists.Undo() || !slices.Equal(lists.Now(), []int{1, 2}) || !lists.Undo() || lists.Now() != nil {
		t.Error("lists")
	}

	within := made(t, made(t, 1, 1), 1)
	within.Now().Do(2)
	within.Do(made(t, 3, 1))
	if !within.Undo() || within.Now().Now() != 2 {
		t.Error("pasts in a past")
	}
}

// P151

// Whatever was done: so many undone, and the same number redone, and it is as it was; so it is the other way about.
func TestUndoneAndRedone(t *testing.T) {
	m := mixer(5)
	for most := 0; most <= api.MaxUndo; most++ {
		p := made(t, -1, most)
		for i := range 300 {
			switch m.below(4) {
			case 0:
				p.Undo()
			case 1:
				p.Redo()
			default:
				p.Do(i)
			}
			before, was := told(p), p.Now()
			back, forth := p.Kept()
			for _, way := range []struct {
				many        int
				there, here func() bool
			}{{back, p.Undo, p.Redo}, {forth, p.Redo, p.Undo}} {
				for many := range way.many + 1 {
					walk(t, many, way.there)
					walk(t, many, way.here)
					is(t, i, p, was, back, forth)
				}
			}
			if after := told(p); !slices.Equal(before, after) {
				t.Fatalf("most %d, step %d: %v, was %v", most, i, after, before)
			}
		}
	}
}

func walk(t *testing.T, many int, step func() bool) {
	t.Helper()
	for range many {
		if !step() {
			t.Error("nothing is kept")
		}
	}
}

// told: all that is kept, by a past of its own.
func told[T any](p *Past[T]) []T {
	q := *p
	var l []T
	for q.Undo() {
		l = append(l, q.Now())
	}
	slices.Reverse(l)
	q = *p
	l = append(l, q.Now())
	for q.Redo() {
		l = append(l, q.Now())
	}
	return l
}

// P2, P4

func TestPastsApart(t *testing.T) {
	m := mixer(7)
	var list []*Past[int]
	var slow []*slowPast
	for i := range 10 {
		list, slow = append(list, made(t, i, i*2)), append(slow, slowNew(i, i*2))
	}
	for i := range 5000 {
		at := m.below(len(list))
		switch m.below(3) {
		case 0:
			list[at].Do(i)
			slow[at].do(i)
		case 1:
			list[at].Undo()
			slow[at].undo()
		case 2:
			list[at].Redo()
			slow[at].redo()
		}
		for j, s := range slow {
			is(t, i, list[j], s.now, len(s.back), len(s.forth))
		}
	}
}

// A copy of a past and the past itself don't write into each other's lists.
func TestCopiesApart(t *testing.T) {
	m := mixer(9)
	for run := range 300 {
		p := made(t, 0, m.below(api.MaxUndo+1))
		wander(&m, p, 30)
		q := *p
		of := told(p)
		wander(&m, p, 30)
		if got := told(&q); !slices.Equal(got, of) {
			t.Fatalf("run %d: %v, was %v", run, got, of)
		}
		of = told(p)
		wander(&m, &q, 30)
		if got := told(p); !slices.Equal(got, of) {
			t.Fatalf("run %d: %v, was %v", run, got, of)
		}
	}
}

func wander(m *mixer, p *Past[int], many int) {
	for range m.below(many) {
		switch m.below(4) {
		case 0:
			p.Undo()
		case 1:
			p.Redo()
		default:
			p.Do(m.below(1000000))
		}
	}
}

// What is gone is held nowhere, so that it takes no memory.
func TestGoneIsGone(t *testing.T) {
	p, all := thrown(t)
	runtime.GC()
	runtime.GC()
	for i, w := range all {
		if isKept := slices.Contains([]int{6, 7, 8, 10}, i); (w.Value() != nil) != isKept {
			t.Errorf("%d: held %v, want %v", i, w.Value() != nil, isKept)
		}
	}
	runtime.KeepAlive(p)
}

type heavy struct{ room [64]int }

// thrown: a past of eleven, of which the first six and the tenth are gone.
func thrown(t *testing.T) (*Past[*heavy], []weak.Pointer[heavy]) {
	var all []weak.Pointer[heavy]
	next := func() *heavy {
		x := &heavy{}
		all = append(all, weak.Make(x))
		return x
	}
	p := made(t, next(), 3)
	for range 9 {
		p.Do(next())
	}
	walk(t, 2, p.Undo)
	walk(t, 1, p.Redo)
	p.Do(next())
	walk(t, 3, p.Undo)
	walk(t, 2, p.Redo)
	return p, all
}
