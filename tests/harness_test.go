package tests

import (
	"fmt"
	"reflect"
	"strings"
	"sync"
	"testing"
	"unsafe"

	"loop.example/g00701/impl"
)

// ask is a call of an exported function with what it is given. The rules of chapter 1 are asked of it, whatever it does.
type ask struct {
	name string
	f    any
	args []any
}

func (a ask) String() string {
	var pieces []string
	for _, arg := range a.args {
		pieces = append(pieces, fmt.Sprintf("%.300s", told(reflect.ValueOf(arg))))
	}
	return a.name + "(" + strings.Join(pieces, ", ") + ")"
}

// answersOf calls f with args; a panic is told as an error.
func answersOf(f any, args []reflect.Value) (answers []reflect.Value, err error) {
	defer func() {
		if fault := recover(); fault != nil {
			err = fmt.Errorf("panic: %v", fault)
		}
	}()
	return reflect.ValueOf(f).Call(args), nil
}

// told writes a value out. An empty list and nil are the same value (rule 2), so they are told alike.
func told(v reflect.Value) string {
	var pieces []string
	switch v.Kind() {
	case reflect.Slice, reflect.Array:
		for i := range v.Len() {
			pieces = append(pieces, told(v.Index(i)))
		}
		return "[" + strings.Join(pieces, " ") + "]"
	case reflect.Struct:
		for i := range v.NumField() {
			pieces = append(pieces, v.Type().Field(i).Name+":"+told(v.Field(i)))
		}
		return "{" + strings.Join(pieces, " ") + "}"
	case reflect.String:
		return fmt.Sprintf("%q", v.String())
	}
	return fmt.Sprint(v.Interface())
}

func toldAll(list []reflect.Value) string {
	var pieces []string
	for _, v := range list {
		pieces = append(pieces, told(v))
	}
	return strings.Join(pieces, ", ")
}

// roomy copies a value, with three filled elements behind the end of each list, so that what is written there is seen.
func roomy(v reflect.Value) reflect.Value {
	out := reflect.New(v.Type()).Elem()
	switch v.Kind() {
	case reflect.Slice:
		if v.IsNil() {
			return out
		}
		all := reflect.MakeSlice(v.Type(), v.Len()+3, v.Len()+3)
		for i := range v.Len() {
			all.Index(i).Set(roomy(v.Index(i)))
		}
		for i := v.Len(); i < all.Len(); i++ {
			fill(all.Index(i), i)
		}
		out.Set(all.Slice(0, v.Len()))
	case reflect.Struct:
		for i := range v.NumField() {
			out.Field(i).Set(roomy(v.Field(i)))
		}
	case reflect.String:
		out.SetString(strings.Clone(v.String()))
	default:
		out.Set(v)
	}
	return out
}

func fill(v reflect.Value, n int) {
	switch v.Kind() {
	case reflect.Int:
		v.SetInt(int64(7000 + n))
	case reflect.String:
		v.SetString("behind")
	case reflect.Bool:
		v.SetBool(n%2 == 0)
	case reflect.Slice:
		v.Set(reflect.MakeSlice(v.Type(), 1, 1))
		fill(v.Index(0), n)
	case reflect.Struct:
		for i := range v.NumField() {
			fill(v.Field(i), n+i)
		}
	}
}

// toldWhole tells a value, and what stands behind the end of each of its lists.
func toldWhole(v reflect.Value) string {
	var pieces []string
	switch v.Kind() {
	case reflect.Slice:
		whole := v.Slice(0, v.Cap())
		for i := range whole.Len() {
			pieces = append(pieces, toldWhole(whole.Index(i)))
		}
	case reflect.Struct:
		for i := range v.NumField() {
			pieces = append(pieces, toldWhole(v.Field(i)))
		}
	default:
		return told(v)
	}
	return "(" + strings.Join(pieces, " ") + ")"
}

type span struct {
	from, to uintptr
	list     bool
}

// spansOf is the memory of all lists (with what is behind their ends) and texts of a value.
func spansOf(v reflect.Value) []span {
	var spans []span
	switch v.Kind() {
	case reflect.Slice:
		if v.Cap() > 0 {
			from := v.Pointer()
			spans = append(spans, span{from, from + uintptr(v.Cap())*v.Type().Elem().Size(), true})
		}
		for i := range v.Len() {
			spans = append(spans, spansOf(v.Index(i))...)
		}
	case reflect.Struct:
		for i := range v.NumField() {
			spans = append(spans, spansOf(v.Field(i))...)
		}
	case reflect.String:
		if text := v.String(); text != "" {
			from := uintptr(unsafe.Pointer(unsafe.StringData(text)))
			spans = append(spans, span{from, from + uintptr(len(text)), false})
		}
	}
	return spans
}

func (s span) meets(other span) bool {
	return s.from < other.to && other.from < s.to
}

// askRules asks of one call what chapter 1 asks of all: no panic, nothing written into an argument or behind it, new
// memory, alike answers to alike arguments, and, of a call that ends with a code, nothing beside it.
func askRules(t *testing.T, a ask) {
	t.Helper()
	var args []reflect.Value
	var before []string
	var given []span
	for _, arg := range a.args {
		v := roomy(reflect.ValueOf(arg))
		args = append(args, v)
		before = append(before, toldWhole(v))
		given = append(given, spansOf(v)...)
	}
	answers, err := answersOf(a.f, args)
	if err != nil {
		t.Errorf("%s: %v", a, err)
		return
	}
	for i, v := range args {
		if toldWhole(v) != before[i] {
			t.Errorf("%s wrote into argument %d, or behind it", a, i)
		}
	}
	askNewMemory(t, a, given, answers)
	askNothingBesideACode(t, a, answers)
	var plain []reflect.Value
	for _, arg := range a.args {
		plain = append(plain, reflect.ValueOf(arg))
	}
	if again, _ := answersOf(a.f, plain); toldAll(again) != toldAll(answers) {
		t.Errorf("%s: %s, then %s", a, toldAll(answers), toldAll(again))
	}
}

func askNewMemory(t *testing.T, a ask, given []span, answers []reflect.Value) {
	t.Helper()
	var own []span
	for _, v := range answers {
		own = append(own, spansOf(v)...)
	}
	for i, s := range own {
		for _, g := range given {
			if s.meets(g) {
				t.Errorf("%s: the answer shares memory with an argument", a)
				return
			}
		}
		for _, other := range own[:i] {
			if s.list && other.list && s.meets(other) {
				t.Errorf("%s: two lists of the answer share memory", a)
				return
			}
		}
	}
}

func askNothingBesideACode(t *testing.T, a ask, answers []reflect.Value) {
	t.Helper()
	last := answers[len(answers)-1]
	if len(answers) < 2 || last.Kind() != reflect.Int || last.Int() == 0 || tellsBeside(a.name, int(last.Int())) {
		return
	}
	for _, v := range answers[:len(answers)-1] {
		if told(v) != told(reflect.Zero(v.Type())) {
			t.Errorf("%s: code %d, and beside it %s", a, last.Int(), told(v))
		}
	}
}

// tellsBeside: the chapters say of some calls that they answer more beside some of their codes.
func tellsBeside(name string, code int) bool {
	switch name {
	case "CheckDoc":
		return code == impl.ErrKind || code == impl.ErrContent
	case "ApplyEdit", "ApplyEdits":
		return code != impl.ErrBad && code != impl.ErrLong
	case "AskLock", "FreeLock":
		return code != impl.ErrBad && code != impl.ErrRange
	}
	return false
}

// askOrders asks that no answer hangs on what was called ahead of it or is called beside it.
func askOrders(t *testing.T, list []ask) {
	t.Helper()
	tell := func(a ask) string {
		var args []reflect.Value
		for _, arg := range a.args {
			args = append(args, reflect.ValueOf(arg))
		}
		answers, err := answersOf(a.f, args)
		return fmt.Sprint(toldAll(answers), err)
	}
	first := make([]string, len(list))
	for i, a := range list {
		first[i] = tell(a)
	}
	for i := len(list) - 1; i >= 0; i-- {
		if again := tell(list[i]); again != first[i] {
			t.Errorf("%s: %s, then %s", list[i], first[i], again)
		}
	}
	beside := make([]string, len(list))
	var workers sync.WaitGroup
	for i, a := range list {
		workers.Go(func() { beside[i] = tell(a) })
	}
	workers.Wait()
	for i, a := range list {
		if beside[i] != first[i] {
			t.Errorf("%s: %s, beside others %s", a, first[i], beside[i])
		}
	}
}

// tally counts how often what was thrown came out each way, so that no test goes through one of them alone.
type tally struct{ yes, no int }

func (c *tally) count(yes bool) {
	if yes {
		c.yes++
	} else {
		c.no++
	}
}

func (c *tally) askBoth(t *testing.T) {
	t.Helper()
	if c.yes < 1000 || c.no < 1000 {
		t.Error("too few of one sort:", c.yes, c.no)
	}
}

// dice throws the same numbers in every run.
type dice struct{ state uint64 }

// below answers a number from 0 to below n.
func (d *dice) below(n int) int {
	d.state = d.state*6364136223846793005 + 1442695040888963407
	return int(d.state >> 33 % uint64(n))
}
