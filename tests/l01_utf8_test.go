package tests

import (
	"bytes"
	"math"
	"math/rand"
	"reflect"
	"slices"
	"testing"

	"loop.example/g00739/impl"
)

func TestCodesHaveTheirNumbers(t *testing.T) {
	got := []int64{impl.OK, impl.ErrForm, impl.ErrMany, impl.ErrRange, impl.ErrNone, impl.ErrText, impl.ErrStore, impl.ErrFull, impl.ErrState}
	if !slices.Equal(got, []int64{0, 1, 2, 3, 4, 5, 6, 7, 8}) {
		t.Error("codes", got)
	}
	if !slices.Equal([]int64{impl.MaxBytes, impl.MaxText, impl.MaxChar, impl.BadChar}, []int64{600, 600, 1114111, 65533}) {
		t.Error("bounds")
	}
}

func TestIsChar(t *testing.T) {
	for c := int64(-3000); c < 1120000; c++ {
		want := 0 <= c && c <= 55295 || 57344 <= c && c <= 1114111
		if impl.IsChar(c) != want {
			t.Fatal(c, !want)
		}
	}
	for _, c := range noChars() {
		if impl.IsChar(c) {
			t.Error(c)
		}
	}
}

// Promise 2: characters are read back from their bytes, and these are the ones that the document tells.
func TestEveryCharacterIsReadBack(t *testing.T) {
	var text []int64
	var want []byte
	check := func() {
		e := impl.EncodeText(text)
		if e.Code != impl.OK || !bytes.Equal(e.Bytes, want) {
			t.Fatal("encode", text, e)
		}
		if d := impl.DecodeAll(e.Bytes); d.Code != impl.OK || !slices.Equal(d.List, text) {
			t.Fatal("decode", text, d)
		}
		text, want = nil, nil
	}
	for c := int64(0); c <= impl.MaxChar; c++ {
		if 55296 <= c && c <= 57343 {
			continue
		}
		text, want = append(text, c), append(want, bytesOf(c)...)
		if len(want) > impl.MaxBytes-4 {
			check()
		}
	}
	check()
}

func TestEncodeTextCodes(t *testing.T) {
	full := slices.Repeat([]int64{impl.MaxChar}, impl.MaxText)
	if e := impl.EncodeText(full); e.Code != impl.OK || !bytes.Equal(e.Bytes, bytes.Repeat([]byte{244, 143, 191, 191}, impl.MaxText)) {
		t.Error("a full text", e)
	}
	if e := impl.EncodeText(append(full, 65)); e.Code != impl.ErrMany || len(e.Bytes) != 0 {
		t.Error("one too many", e)
	}
	if e := impl.EncodeText(append([]int64{-1}, full...)); e.Code != impl.ErrMany || len(e.Bytes) != 0 {
		t.Error("too many is asked first", e)
	}
	for _, c := range noChars() {
		for _, text := range [][]int64{{c}, {c, 65}, {65, c}, append([]int64{c}, full[1:]...), append(full[1:len(full):len(full)], c)} {
			if e := impl.EncodeText(text); e.Code != impl.ErrRange || len(e.Bytes) != 0 {
				t.Error("no character", c, e)
			}
		}
	}
	for _, text := range [][]int64{nil, {}} {
		if e := impl.EncodeText(text); e.Code != impl.OK || len(e.Bytes) != 0 {
			t.Error("empty", e)
		}
	}
}

func TestCarryFaultOfAllShortBytes(t *testing.T) {
	var all [256]byte
	for i := range all {
		all[i] = byte(i)
	}
	allStrings(all[:], 2, func(s []byte) {
		checkCarryFault(t, s)
		if theBook().beginnings[string(s)] || len(s) < 2 {
			return
		}
		checkCarryFault(t, append(slices.Clip(s), 128))
		checkCarryFault(t, append(slices.Clip(s), 65))
	})
	for s := range theBook().beginnings {
		for i := range all {
			checkCarryFault(t, append([]byte(s), byte(i)))
		}
	}
	allStrings(edgeBytes(), 4, func(s []byte) { checkCarryFault(t, s) })
	checkCarryFault(t, bytes.Repeat([]byte{240, 159, 152}, 500))
}

func checkCarryFault(t *testing.T, carry []byte) {
	want := int64(impl.ErrForm)
	if len(carry) == 0 || theBook().beginnings[string(carry)] {
		want = 0
	}
	if got := impl.CarryFault(carry); got != want {
		t.Fatal(carry, got)
	}
}

func TestDecodeTells(t *testing.T) {
	for _, c := range []struct {
		data  []byte
		text  []int64
		carry []byte
	}{
		{nil, nil, nil},
		{[]byte{97, 226, 130, 98}, []int64{97, 65533, 98}, nil}, // a beginning that is not gone on with
		{[]byte{97, 226, 130}, []int64{97}, []byte{226, 130}},   // a beginning at the very end
		{[]byte{240, 159, 152}, nil, []byte{240, 159, 152}},     // the longest one
		{[]byte{226, 226}, []int64{65533}, []byte{226}},         // a beginning behind one that failed
		{[]byte{240, 159, 226, 130}, []int64{65533}, []byte{226, 130}},
		{[]byte{128}, []int64{65533}, nil}, // follows no first one
		{[]byte{65, 128, 191, 66}, []int64{65, 65533, 65533, 66}, nil},
		{[]byte{195, 169, 169}, []int64{233, 65533}, nil}, // one byte more than the character has
		{[]byte{192, 128}, []int64{65533, 65533}, nil},    // too long for what it would be
		{[]byte{193, 191}, []int64{65533, 65533}, nil},
		{[]byte{224, 159, 191}, []int64{65533, 65533, 65533}, nil},
		{[]byte{240, 143, 191, 191}, []int64{65533, 65533, 65533, 65533}, nil},
		{[]byte{237, 160, 128}, []int64{65533, 65533, 65533}, nil}, // would be 55296
		{[]byte{237, 191, 191}, []int64{65533, 65533, 65533}, nil}, // would be 57343
		{[]byte{237, 159, 191}, []int64{55295}, nil},
		{[]byte{238, 128, 128}, []int64{57344}, nil},
		{[]byte{244, 143, 191, 191}, []int64{1114111}, nil},
		{[]byte{244, 144, 128, 128}, []int64{65533, 65533, 65533, 65533}, nil}, // would be 1114112
		{[]byte{245, 128}, []int64{65533, 65533}, nil},                         // none begins with 245
		{[]byte{255}, []int64{65533}, nil},
		{[]byte{239, 191, 189}, []int64{65533}, nil}, // BadChar itself
		{[]byte{239, 191, 189, 239, 191}, []int64{65533}, []byte{239, 191}},
		{[]byte{0}, []int64{0}, nil},
	} {
		d := impl.DecodeChunk(nil, c.data)
		if d.Code != impl.OK || !slices.Equal(d.Text, c.text) || !bytes.Equal(d.Carry, c.carry) {
			t.Error("chunk", c.data, d)
		}
		want := slices.Clone(c.text)
		if len(c.carry) > 0 {
			want = append(want, impl.BadChar)
		}
		if a := impl.DecodeAll(c.data); a.Code != impl.OK || !slices.Equal(a.List, want) {
			t.Error("all", c.data, a)
		}
	}
}

// Promise 2: whatever bytes stand for are characters, and it does not hang on where they are cut.
func TestDecodeOfAllKindsOfBytes(t *testing.T) {
	allStrings(edgeBytes(), 4, func(s []byte) { checkDecode(t, s) })
	r := rand.New(rand.NewSource(1))
	for range 2000 {
		checkDecode(t, randomBytes(r, r.Intn(40)))
	}
	for range 20 {
		checkDecode(t, randomBytes(r, impl.MaxBytes))
	}
}

func checkDecode(t *testing.T, data []byte) {
	text, carry := decodeByBook(data)
	if d := impl.DecodeChunk(nil, data); d.Code != impl.OK || !slices.Equal(d.Text, text) || !bytes.Equal(d.Carry, carry) {
		t.Fatal("chunk", data, d)
	}
	for at := range len(data) + 1 {
		checkCut(t, data, at, text, carry)
	}
	if len(carry) > 0 {
		text = append(text, impl.BadChar)
	}
	a := impl.DecodeAll(data)
	if a.Code != impl.OK || !slices.Equal(a.List, text) {
		t.Fatal("all", data, a)
	}
	for _, c := range a.List {
		if !impl.IsChar(c) {
			t.Fatal("no character", data, c)
		}
	}
}

func checkCut(t *testing.T, data []byte, at int, text []int64, carry []byte) {
	first := impl.DecodeChunk(nil, data[:at])
	second := impl.DecodeChunk(first.Carry, data[at:])
	if first.Code != impl.OK || second.Code != impl.OK || impl.CarryFault(second.Carry) != impl.OK {
		t.Fatal("cut", data, at, first, second)
	}
	if !slices.Equal(slices.Concat(first.Text, second.Text), text) || !bytes.Equal(second.Carry, carry) {
		t.Fatal("cut", data, at, first, second)
	}
}

func TestDecodeInManyCuts(t *testing.T) {
	r := rand.New(rand.NewSource(2))
	for range 500 {
		data := randomBytes(r, r.Intn(100))
		text, carry := decodeByBook(data)
		var got []int64
		var last []byte
		for rest := data; len(rest) > 0; {
			n := min(r.Intn(4), len(rest))
			d := impl.DecodeChunk(last, rest[:n])
			if d.Code != impl.OK {
				t.Fatal(data, d)
			}
			got, last, rest = append(got, d.Text...), d.Carry, rest[n:]
		}
		if !slices.Equal(got, text) || !bytes.Equal(last, carry) {
			t.Fatal(data, got, last)
		}
	}
}

func TestDecodeChunkCodes(t *testing.T) {
	full := bytes.Repeat([]byte{65}, impl.MaxBytes)
	over := append(slices.Clip(full), 65)
	broken := [][]byte{{65}, {128}, {192}, {245}, {226, 40}, {237, 160}, {195, 169}, {226, 130, 172}, {240, 143}, {240, 159, 152, 128}, {195, 195}}
	for _, carry := range broken {
		for _, data := range [][]byte{nil, {172}, full, over} {
			if d := impl.DecodeChunk(carry, data); !reflect.DeepEqual(d, impl.DecodeResult{Code: impl.ErrForm}) {
				t.Error("no beginning", carry, len(data), d)
			}
		}
		if f := impl.FlushCarry(carry); !reflect.DeepEqual(f, impl.DecodeResult{Code: impl.ErrForm}) {
			t.Error("flush", carry, f)
		}
	}
	for _, carry := range [][]byte{nil, {}, {240, 159, 152}} {
		if d := impl.DecodeChunk(carry, over); !reflect.DeepEqual(d, impl.DecodeResult{Code: impl.ErrMany}) {
			t.Error("too many", carry, d)
		}
	}
	if d := impl.DecodeChunk([]byte{240, 159, 152}, full); d.Code != impl.OK || len(d.Text) != impl.MaxBytes+1 || d.Text[0] != impl.BadChar || d.Text[1] != 65 {
		t.Error("full", d)
	}
	if a := impl.DecodeAll(full); a.Code != impl.OK || len(a.List) != impl.MaxBytes {
		t.Error("full", a)
	}
	if a := impl.DecodeAll(over); a.Code != impl.ErrMany || len(a.List) != 0 {
		t.Error("too many", a)
	}
}

func TestCarryGoesOn(t *testing.T) {
	for _, c := range []struct {
		carry, data []byte
		text        []int64
		rest        []byte
	}{
		{nil, nil, nil, nil},
		{[]byte{226}, nil, nil, []byte{226}}, // still at the very end
		{[]byte{226}, []byte{130}, nil, []byte{226, 130}},
		{[]byte{226, 130}, []byte{172, 65}, []int64{8364, 65}, nil},
		{[]byte{240, 159, 152}, []byte{128}, []int64{128512}, nil},
		{[]byte{226, 130}, []byte{65}, []int64{65533, 65}, nil},
		{[]byte{226, 130}, []byte{226, 130}, []int64{65533}, []byte{226, 130}},
		{[]byte{224}, []byte{128}, []int64{65533, 65533}, nil},
	} {
		d := impl.DecodeChunk(c.carry, c.data)
		if d.Code != impl.OK || !slices.Equal(d.Text, c.text) || !bytes.Equal(d.Carry, c.rest) {
			t.Error(c.carry, c.data, d)
		}
	}
}

func TestFlushCarry(t *testing.T) {
	for s := range theBook().beginnings {
		if f := impl.FlushCarry([]byte(s)); f.Code != impl.OK || !slices.Equal(f.Text, []int64{impl.BadChar}) || len(f.Carry) != 0 {
			t.Fatal([]byte(s), f)
		}
	}
	for _, carry := range [][]byte{nil, {}} {
		if f := impl.FlushCarry(carry); f.Code != impl.OK || len(f.Text) != 0 || len(f.Carry) != 0 {
			t.Error("empty", f)
		}
	}
}

func TestSameTexts(t *testing.T) {
	for _, c := range []struct {
		a, b []int64
		want bool
	}{
		{nil, nil, true},
		{nil, []int64{}, true},
		{[]int64{}, []int64{}, true},
		{nil, []int64{0}, false},
		{[]int64{1, 2}, []int64{1, 2}, true},
		{[]int64{1, 2}, []int64{2, 1}, false},
		{[]int64{1, 2}, []int64{1}, false},
		{[]int64{1, 2}, []int64{1, 3}, false},
		{[]int64{0, 2}, []int64{1, 2}, false},
		{[]int64{-1, math.MinInt64}, []int64{-1, math.MinInt64}, true}, // asked of any numbers
		{[]int64{65}, []int64{1<<32 + 65}, false},
		{make([]int64, 700), make([]int64, 700), true},
		{make([]int64, 700), make([]int64, 701), false},
	} {
		if impl.SameTexts(c.a, c.b) != c.want || impl.SameTexts(c.b, c.a) != c.want {
			t.Error(c.a, c.b, !c.want)
		}
	}
}
