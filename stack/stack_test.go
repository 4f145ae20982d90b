package stack_test

import (
	"math"
	"math/rand"
	"testing"

	"ullage/api"
	"ullage/stack"
)

func TestNew(t *testing.T) {
	for _, n := range []int{0, -1, api.MaxStack + 1, math.MaxInt, math.MinInt} {
		if s, e := stack.New(n); s != nil || e != api.ErrArg {
			t.Errorf("New(%d): error %d", n, e)
		}
	}
	for _, n := range []int{1, api.MaxStack} {
		s, e := stack.New(n)
		if e != api.OK || s.Len() != 0 || s.High() != 0 || s.Lost() {
			t.Fatalf("New(%d): error %d", n, e)
		}
		for i := range n {
			if !s.Push(i) {
				t.Errorf("room %d: value %d is lost", n, i)
			}
		}
		if s.Push(9) || !s.Lost() || s.Len() != n || s.High() != n {
			t.Errorf("room %d is not kept", n)
		}
	}
}

func TestExample(t *testing.T) {
	s, _ := stack.New(1)
	if !s.Push(5) || s.Push(6) {
		t.Error("Push")
	}
	a, ok := s.Pop()
	if a != 5 || !ok {
		t.Error("Pop")
	}
	if a, ok := s.Pop(); a != 0 || ok {
		t.Error("Pop of nothing")
	}
	if !s.Lost() || !s.Lost() {
		t.Error("Lost")
	}
	s.Found()
	if s.Lost() || s.High() != 1 {
		t.Error("Found")
	}
}

func TestAgainstModel(t *testing.T) {
	r := rand.New(rand.NewSource(24))
	for room := 1; room < 9; room++ {
		s, _ := stack.New(room)
		var model []int
		lost, high := false, 0
		for range 3000 {
			switch a := int(r.Uint64()); r.Intn(9) {
			case 0, 1, 2, 3:
				fits := len(model) < room
				if s.Push(a) != fits {
					t.Fatal("Push")
				}
				if fits {
					model = append(model, a)
				}
				lost = lost || !fits
				high = max(high, len(model))
			case 4:
				s.Found()
				lost = false
			default:
				want, wantOK := 0, len(model) > 0
				if wantOK {
					want, model = model[len(model)-1], model[:len(model)-1]
				}
				if a, ok := s.Pop(); a != want || ok != wantOK {
					t.Fatalf("Pop: %d, not %d", a, want)
				}
			}
			if s.Len() != len(model) || s.Lost() != lost || s.High() != high {
				t.Fatalf("Len %d, High %d", s.Len(), s.High())
			}
		}
	}
}

func TestNil(t *testing.T) {
	var s *stack.Stack
	s.Found()
	a, ok := s.Pop()
	if s.Push(1) || a != 0 || ok || s.Len()+s.High() != 0 || s.Lost() {
		t.Error("nil")
	}
}
