package many_test

import (
	"errors"
	"fmt"
	"math"
	"math/rand/v2"
	"runtime"
	"slices"
	"strings"
	"sync"
	"testing"
	"time"

	"raingauge/api"
	"raingauge/desk"
	"raingauge/many"
)

// The head of the chapter's function.
var _ func(texts []string, workers int) ([]string, error) = many.All

func drawn(seed uint64) *rand.Rand { return rand.New(rand.NewPCG(seed, 15)) }

// session is a text that only one place has: quick ones and slow ones, ones that go wrong, ones without words.
func session(r *rand.Rand, place int) string {
	s := fmt.Sprintf("put {place=\"%d\"} 1 %d\nadd\n", place, place)
	for range r.IntN(30) {
		switch r.IntN(6) {
		case 0:
			s += fmt.Sprintf("power %d\ncut 1\n", r.IntN(9))
		case 1:
			s += fmt.Sprintf("crash %d\n", r.IntN(30))
		case 2:
			s += "compact\nblocks\nstate\n"
		case 3:
			s += "\nx\n"
		default:
			s += "select {} 0 9\nask 5 {} * 2\n"
		}
	}
	return s + "select {} 0 9"
}

func sessions(seed uint64, count int) (l []string) {
	r := drawn(seed)
	for place := range count {
		l = append(l, session(r, place))
	}
	return l
}

// model is Session of each, in order.
func model(texts []string) (l []string) {
	for _, text := range texts {
		l = append(l, desk.Session(text))
	}
	return l
}

// want: All tells that, and no error, and leaves the texts as they are.
func want(t *testing.T, texts []string, workers int, answers []string) {
	t.Helper()
	was := slices.Clone(texts)
	got, err := many.All(texts, workers)
	if err != nil || len(got) != len(texts) {
		t.Fatalf("%d texts, %d workers: %d answers, %v", len(texts), workers, len(got), err)
	}
	for i := range got {
		if got[i] != answers[i] {
			t.Errorf("%d texts, %d workers: at %d %.300q, not %.300q", len(texts), workers, i, got[i], answers[i])
		}
	}
	if !slices.Equal(texts, was) {
		t.Errorf("%d texts, %d workers: the texts are changed", len(texts), workers)
	}
}

// wantLimit: ErrLimit, without a place, and nothing else.
func wantLimit(t *testing.T, texts []string, workers int) {
	t.Helper()
	got, err := many.All(texts, workers)
	var at *api.At
	if len(got) != 0 || api.Tell(err) != api.ErrLimit || errors.As(err, &at) {
		t.Errorf("%d texts, %d workers: %d answers, %v", len(texts), workers, len(got), err)
	}
}

// 15.1: answers that are written out, each in its place.
func TestAnswers(t *testing.T) {
	texts := []string{"state", "", "put {a=\"x\"} 1 2\nadd\nselect {} 0 9", "x", strings.Repeat("x", 20001), "select {} 0 9\n", "print 1+1", "power 0\nadd\nadd"}
	answers := []string{"state false 0\n", "ok\n", "put\nadd\nselect {a=\"x\"} 1:2\n", "error 3\n", "error 4\n", "select\n", "1 + 1\n", "power\nerror 14\nerror 6\n"}
	for workers := 1; workers <= 16; workers++ {
		for n := range len(texts) + 1 {
			want(t, texts[:n], workers, answers[:n])
			want(t, texts[n:], workers, answers[n:])
		}
	}
}

// 15.1: with any number of workers, more than texts and fewer, it is Session of each, in order.
func TestSameWithAnyWorkers(t *testing.T) {
	for _, count := range []int{1, 2, 3, 15, 16, 17, 49, 50} {
		texts := sessions(uint64(count), count)
		answers := model(texts)
		for workers := 1; workers <= 16; workers++ {
			want(t, texts, workers, answers)
		}
	}
}

// 15.1: whichever worker took it: slow texts among quick ones, at each end, and the same one many times.
func TestSlowAndQuick(t *testing.T) {
	slow := strings.Repeat("put {a=\"x\"} 1 1\nadd\ncut 5\ncrash 0\nselect {} 0 9\n", 300)
	for _, every := range []int{1, 2, 7, 49} {
		for _, first := range []int{0, 1, 49} {
			texts := sessions(9, 50)
			for i := first; i < 50; i += every {
				texts[i] = slow
			}
			answers := model(texts)
			for _, workers := range []int{1, 2, 3, 16} {
				want(t, texts, workers, answers)
			}
		}
	}
}

// 15.1: 50 texts are not too many, 51 are; no texts have no answers.
func TestMostTexts(t *testing.T) {
	texts := sessions(1, 60)
	answers := model(texts)
	for _, workers := range []int{1, 2, 16} {
		want(t, texts[:50], workers, answers[:50])
		want(t, texts[10:], workers, answers[10:])
		for n := 51; n <= 60; n++ {
			wantLimit(t, texts[:n], workers)
		}
		wantLimit(t, make([]string, 51), workers)
		wantLimit(t, make([]string, 100000), workers)
		want(t, make([]string, 50), workers, slices.Repeat([]string{"ok\n"}, 50))
	}
	for workers := 1; workers <= 16; workers++ {
		want(t, nil, workers, nil)
		want(t, []string{}, workers, nil)
		want(t, texts[:0], workers, nil)
	}
}

// 15.1: workers are from 1 to 16.
func TestMostWorkers(t *testing.T) {
	for _, workers := range []int{0, -1, -2, -16, 17, 18, 32, 50, 1000, math.MinInt, math.MaxInt, math.MinInt32, math.MaxInt32, 1<<32 + 1, -1<<32 + 1} {
		for _, count := range []int{0, 1, 16, 17, 50, 51} {
			wantLimit(t, make([]string, count), workers)
		}
	}
}

// P4: nothing that stands behind the texts is touched; answers are the caller's.
func TestFresh(t *testing.T) {
	texts := sessions(2, 50)
	want(t, texts[:20], 4, model(texts[:20]))
	if !slices.Equal(texts, sessions(2, 50)) {
		t.Error("what stands behind the texts is changed")
	}
	a, _ := many.All(texts, 4)
	b, _ := many.All(texts, 4)
	kept := slices.Clone(b)
	for i := range a {
		a[i] = "written into"
	}
	if !slices.Equal(b, kept) || !slices.Equal(texts, sessions(2, 50)) {
		t.Error("two answers share memory")
	}
}

// 15.1: asked by many at the same time it is the same.
func TestAtTheSameTime(t *testing.T) {
	texts := sessions(3, 30)
	answers := model(texts)
	var group sync.WaitGroup
	for i := range 12 {
		group.Go(func() {
			got, err := many.All(texts, 1+i)
			if err != nil || !slices.Equal(got, answers) {
				t.Errorf("%d workers at the same time as others: %v", 1+i, err)
			}
		})
	}
	group.Wait()
}

// 15.1: no goroutine is left behind, whether there is an error or not.
func TestNoneIsLeft(t *testing.T) {
	before := runtime.NumGoroutine()
	texts := sessions(4, 51)
	for range 20 {
		for workers := -1; workers <= 18; workers++ {
			for _, n := range []int{0, 1, 5, 50, 51} {
				_, _ = many.All(texts[:n], workers)
			}
		}
	}
	for range 500 { // one that told that it is done may take a while to go
		if runtime.NumGoroutine() <= before {
			return
		}
		time.Sleep(10 * time.Millisecond)
	}
	t.Errorf("%d goroutines are left, of %d", runtime.NumGoroutine(), before)
}
