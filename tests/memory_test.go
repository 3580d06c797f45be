package tests

import (
	"reflect"
	"strings"
	"testing"
	"unsafe"
)

// same holds two values against each other as the document does: an empty
// list and nil are the same.
func same(a, b any) bool {
	return sameValues(reflect.ValueOf(a), reflect.ValueOf(b))
}

func sameValues(a, b reflect.Value) bool {
	if a.Type() != b.Type() {
		return false
	}
	switch a.Kind() {
	case reflect.Slice:
		if a.Len() != b.Len() {
			return false
		}
		for i := range a.Len() {
			if !sameValues(a.Index(i), b.Index(i)) {
				return false
			}
		}
		return true
	case reflect.Struct:
		for i := range a.NumField() {
			if !sameValues(a.Field(i), b.Field(i)) {
				return false
			}
		}
		return true
	}
	return a.Equal(b)
}

// whole copies a value with all that its lists could hold, so that a change
// behind the end of a list is seen as well.
func whole(v reflect.Value) reflect.Value {
	out := reflect.New(v.Type()).Elem()
	switch v.Kind() {
	case reflect.Slice:
		full := v.Slice(0, v.Cap())
		out.Set(reflect.MakeSlice(v.Type(), full.Len(), full.Len()))
		for i := range full.Len() {
			out.Index(i).Set(whole(full.Index(i)))
		}
	case reflect.Struct:
		for i := range v.NumField() {
			out.Field(i).Set(whole(v.Field(i)))
		}
	default:
		out.Set(v)
	}
	return out
}

// span is the memory of one list, up to its capacity.
type span struct {
	from, to uintptr
}

func (s span) meets(o span) bool {
	return s.from < o.to && o.from < s.to
}

func spansOf(v reflect.Value) []span {
	var out []span
	switch v.Kind() {
	case reflect.Slice:
		if size := uintptr(v.Cap()) * v.Type().Elem().Size(); size > 0 {
			out = append(out, span{v.Pointer(), v.Pointer() + size})
		}
		for i := range v.Len() {
			out = append(out, spansOf(v.Index(i))...)
		}
	case reflect.Struct:
		for i := range v.NumField() {
			out = append(out, spansOf(v.Field(i))...)
		}
	}
	return out
}

// textsOf tells the memory of all texts in a value: a piece of a text lies in
// that text's memory.
func textsOf(v reflect.Value) []span {
	var out []span
	switch v.Kind() {
	case reflect.String:
		if text := v.String(); text != "" {
			from := uintptr(unsafe.Pointer(unsafe.StringData(text)))
			out = append(out, span{from, from + uintptr(len(text))})
		}
	case reflect.Slice:
		for i := range v.Len() {
			out = append(out, textsOf(v.Index(i))...)
		}
	case reflect.Struct:
		for i := range v.NumField() {
			out = append(out, textsOf(v.Field(i))...)
		}
	}
	return out
}

// scribble turns every number, bool and byte in the lists of a value.
func scribble(v reflect.Value) {
	switch v.Kind() {
	case reflect.Slice:
		full := v.Slice(0, v.Cap())
		for i := range full.Len() {
			scribble(full.Index(i))
		}
	case reflect.Struct:
		for i := range v.NumField() {
			scribble(v.Field(i))
		}
	case reflect.Int64:
		if v.CanSet() {
			v.SetInt(v.Int() ^ 77)
		}
	case reflect.Uint8:
		if v.CanSet() {
			v.SetUint(v.Uint() ^ 77)
		}
	case reflect.Bool:
		if v.CanSet() {
			v.SetBool(!v.Bool())
		}
	case reflect.String:
		if v.CanSet() {
			v.SetString(v.String() + "x")
		}
	}
}

// checkCall asks a function for all of promise 1 at these arguments: it
// answers, changes none of them, shares no memory, and answers the same again.
// It gives the answer.
func checkCall(t *testing.T, what string, function any, args ...any) any {
	t.Helper()
	call := reflect.ValueOf(function)
	in := make([]reflect.Value, len(args))
	before := make([]reflect.Value, len(args))
	for i, a := range args {
		in[i] = reflect.ValueOf(a)
		before[i] = whole(in[i])
	}
	answer := answerOf(t, what, call, in)
	checkUnchanged(t, what, in, before)
	checkMemory(t, what, in, answer)
	checkZero(t, what, answer)

	first := whole(answer).Interface()
	scribble(answerOf(t, what, call, in))
	checkUnchanged(t, what+" (its answer written over)", in, before)
	if !same(whole(answer).Interface(), first) {
		t.Errorf("%s: two answers share memory", what)
	}
	again := answerOf(t, what, call, in)
	if !same(again.Interface(), answer.Interface()) {
		t.Errorf("%s: asked again it answers %v, not %v", what, again, answer)
	}
	return answer.Interface()
}

func answerOf(t *testing.T, what string, call reflect.Value, in []reflect.Value) reflect.Value {
	t.Helper()
	defer func() {
		if r := recover(); r != nil {
			t.Fatalf("%s: panic: %v", what, r)
		}
	}()
	return call.Call(in)[0]
}

func checkUnchanged(t *testing.T, what string, in, before []reflect.Value) {
	t.Helper()
	for i := range in {
		if !same(whole(in[i]).Interface(), before[i].Interface()) {
			t.Errorf("%s: argument %d is changed", what, i)
		}
	}
}

func checkMemory(t *testing.T, what string, in []reflect.Value, answer reflect.Value) {
	t.Helper()
	own := spansOf(answer)
	for i, a := range own {
		for _, b := range own[i+1:] {
			if a.meets(b) {
				t.Errorf("%s: two lists of the answer share memory", what)
			}
		}
	}
	texts := textsOf(answer)
	for i := range in {
		if anyMeet(spansOf(in[i]), own) {
			t.Errorf("%s: the answer shares memory with argument %d", what, i)
		}
		if anyMeet(textsOf(in[i]), texts) {
			t.Errorf("%s: a text of the answer is a piece of argument %d", what, i)
		}
	}
}

func anyMeet(list, others []span) bool {
	for _, a := range list {
		for _, b := range others {
			if a.meets(b) {
				return true
			}
		}
	}
	return false
}

// checkZero: with a code that is not OK all else of an answer is zero.
func checkZero(t *testing.T, what string, answer reflect.Value) {
	t.Helper()
	if answer.Kind() != reflect.Struct {
		return
	}
	code := answer.FieldByName("Code")
	if !code.IsValid() || code.Int() == 0 {
		return
	}
	zero := reflect.New(answer.Type()).Elem()
	zero.FieldByName("Code").SetInt(code.Int())
	if !same(answer.Interface(), zero.Interface()) {
		t.Errorf("%s: with code %d the answer has more: %v", what, code.Int(), answer)
	}
}

// The checks above have to see what they are there for.
func TestMemoryChecksSee(t *testing.T) {
	list := make([]int64, 2, 4)
	if !same([]int64{}, []int64(nil)) || same([]int64{1}, []int64{2}) || same([]int64{1}, []int64{1, 2}) {
		t.Error("same")
	}
	a, b := spansOf(reflect.ValueOf(list[:1]))[0], spansOf(reflect.ValueOf(list[1:]))[0]
	if !a.meets(b) || !b.meets(a) {
		t.Error("lists that share what is behind an end")
	}
	c := spansOf(reflect.ValueOf(list[:1:1]))[0]
	if c.meets(b) || b.meets(c) {
		t.Error("lists side by side share nothing")
	}
	text := strings.Repeat("ab", 3)
	d, e := textsOf(reflect.ValueOf([]string{"", text})), textsOf(reflect.ValueOf(text[2:3]))
	if !anyMeet(d, e) || !anyMeet(e, d) || anyMeet(d, textsOf(reflect.ValueOf(strings.Clone(text)))) {
		t.Error("a piece of a text")
	}
	before := whole(reflect.ValueOf(list))
	_ = append(list, 9)
	if same(whole(reflect.ValueOf(list)).Interface(), before.Interface()) {
		t.Error("a change behind the end of a list")
	}
}
