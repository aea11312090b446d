package tests

import (
	"bytes"
	"reflect"
	"slices"
	"testing"

	"loop.example/g00739/impl"
)

// Promise 1 as far as chapter 1 goes: no argument is changed, what is answered is new memory, and it hangs on the arguments alone.

// roomy has its elements in front of more memory, which an append to a kept part would write to.
func roomy[T any](list ...T) []T {
	return append(make([]T, 0, len(list)+8), list...)
}

// scribble writes over all that a list has, and over the memory behind it.
func scribble[T any](list []T, mark T) {
	list = list[:cap(list)]
	for i := range list {
		list[i] = mark
	}
}

func TestEncodeTextSharesNothing(t *testing.T) {
	for _, list := range [][]int64{{65, 233, 8364, 128512}, {65, -1}, make([]int64, 601)} {
		text := roomy(list...)
		before := slices.Clone(text[:cap(text)])
		first := impl.EncodeText(text)
		second := impl.EncodeText(text)
		if !reflect.DeepEqual(first, second) {
			t.Error("two answers", first, second)
		}
		scribble(first.Bytes, 1)
		if !slices.Equal(text[:cap(text)], before) {
			t.Error("changed", text)
		}
		if !reflect.DeepEqual(second, impl.EncodeText(text)) {
			t.Error("shared", second)
		}
		scribble(text, 7)
		if !reflect.DeepEqual(second, impl.EncodeText(list)) {
			t.Error("shared with the argument", second)
		}
	}
}

func TestDecodeChunkSharesNothing(t *testing.T) {
	for _, c := range []struct{ carry, data []byte }{
		{nil, []byte{97, 226, 130}},
		{[]byte{226, 130}, nil},
		{[]byte{226}, []byte{130}},
		{[]byte{226, 130}, []byte{172, 65, 240, 159, 152}},
		{[]byte{65}, []byte{65}},
		{[]byte{226}, make([]byte, 601)},
	} {
		carry, data := roomy(c.carry...), roomy(c.data...)
		oldCarry, oldData := slices.Clone(carry[:cap(carry)]), slices.Clone(data[:cap(data)])
		first := impl.DecodeChunk(carry, data)
		second := impl.DecodeChunk(carry, data)
		if !reflect.DeepEqual(first, second) {
			t.Error("two answers", first, second)
		}
		scribble(first.Text, 1)
		scribble(first.Carry, 1)
		if !bytes.Equal(carry[:cap(carry)], oldCarry) || !bytes.Equal(data[:cap(data)], oldData) {
			t.Error("changed", c)
		}
		scribble(carry, 7)
		scribble(data, 7)
		if !reflect.DeepEqual(second, impl.DecodeChunk(c.carry, c.data)) {
			t.Error("shared", c, second)
		}
	}
}

func TestFlushCarryAndDecodeAllShareNothing(t *testing.T) {
	for _, list := range [][]byte{nil, {226, 130}, {65}, {128}, {97, 226, 130, 98, 240}, make([]byte, 601)} {
		data := roomy(list...)
		before := slices.Clone(data[:cap(data)])
		flush, all, fault := impl.FlushCarry(data), impl.DecodeAll(data), impl.CarryFault(data)
		flushAgain, allAgain := impl.FlushCarry(data), impl.DecodeAll(data)
		scribble(flushAgain.Text, 1)
		scribble(flushAgain.Carry, 1)
		scribble(allAgain.List, 1)
		if !bytes.Equal(data[:cap(data)], before) {
			t.Error("changed", data)
		}
		scribble(data, 7)
		if !reflect.DeepEqual(flush, impl.FlushCarry(list)) || !reflect.DeepEqual(all, impl.DecodeAll(list)) || fault != impl.CarryFault(list) {
			t.Error("shared", list, flush, all)
		}
	}
}

func TestSameTextsChangesNothing(t *testing.T) {
	a, b := roomy[int64](3, 1, 2), roomy[int64](2, 1, 3)
	if impl.SameTexts(a, b) || !slices.Equal(a, []int64{3, 1, 2}) || !slices.Equal(b, []int64{2, 1, 3}) {
		t.Error(a, b)
	}
}

// An empty list and nil are the same value, wherever one may come in.
func TestEmptyIsNil(t *testing.T) {
	none := []byte{}
	for _, data := range [][]byte{nil, none, {65, 226}} {
		a, b := impl.DecodeChunk(nil, data), impl.DecodeChunk(none, data)
		if !slices.Equal(a.Text, b.Text) || !bytes.Equal(a.Carry, b.Carry) || a.Code != b.Code {
			t.Error(a, b)
		}
	}
	if impl.CarryFault(nil) != impl.OK || impl.CarryFault(none) != impl.OK {
		t.Error("carry")
	}
	if a, b := impl.DecodeAll(nil), impl.DecodeAll(none); a.Code != 0 || b.Code != 0 || len(a.List)+len(b.List) != 0 {
		t.Error(a, b)
	}
}
