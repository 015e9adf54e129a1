package tests

import (
	"slices"
	"testing"
)

const spareRoom = 8

// guarded is an argument with spare room behind it, and a copy of both, to tell later whether either was written into.
type guarded[T comparable] struct {
	arg    []T
	before []T
}

func guard[T comparable](list []T, filler T) guarded[T] {
	whole := make([]T, 0, len(list)+spareRoom)
	whole = append(whole, list...)
	for range spareRoom {
		whole = append(whole, filler)
	}
	return guarded[T]{arg: whole[:len(list)], before: slices.Clone(whole)}
}

func (g guarded[T]) untouched() bool {
	return slices.Equal(g.arg[:cap(g.arg)], g.before)
}

// checkOwnMemory asks that a call writes nothing into its argument or behind it, that its answer shares no memory
// with the argument, and that a second answer shares none with the first one.
func checkOwnMemory[A, B comparable](t *testing.T, name string, in []A, fillIn A, fillOut B, call func([]A) []B) {
	t.Helper()
	g := guard(in, fillIn)
	first := call(g.arg)
	if !g.untouched() {
		t.Errorf("%s(%v) wrote into its argument or the room behind it", name, in)
	}
	want := slices.Clone(first)
	second := call(g.arg)
	overwrite(first, fillOut)
	if !g.untouched() {
		t.Errorf("%s(%v): the answer shares memory with the argument", name, in)
	}
	if !slices.Equal(second, want) {
		t.Errorf("%s(%v): two answers share memory", name, in)
	}
	overwrite(g.arg, fillIn)
	if !slices.Equal(second, want) {
		t.Errorf("%s(%v): a later change of the argument is seen in the answer", name, in)
	}
}

func overwrite[T any](list []T, filler T) {
	whole := list[:cap(list)]
	for i := range whole {
		whole[i] = filler
	}
}

func repeated[T any](x T, n int) []T {
	return slices.Repeat([]T{x}, n)
}

func joined[T any](lists ...[]T) []T {
	return slices.Concat(lists...)
}
