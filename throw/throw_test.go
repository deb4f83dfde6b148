package throw

import (
	"testing"

	"quarry/api"
)

// What the work makes is the answer, with OK.
func TestCaught(t *testing.T) {
	if n, e := Caught(func() int { return 7 }); n != 7 || e != api.OK {
		t.Errorf("%d, error %d", n, e)
	}
	if l, e := Caught(func() []int { return []int{1, 2} }); len(l) != 2 || e != api.OK {
		t.Errorf("%v, error %d", l, e)
	}
	made, e := Caught(func() int {
		If(api.OK)
		return 8
	})
	if made != 8 || e != api.OK {
		t.Errorf("%d, error %d", made, e)
	}
}

// An error that is thrown ends the work, however deep within it; nothing is
// answered beside it.
func TestThrown(t *testing.T) {
	var deep func(left int) int
	deep = func(left int) int {
		if left == 0 {
			If(api.ErrType)
			t.Error("it goes on behind the error")
			return 1
		}
		return deep(left-1) + 1
	}
	if n, e := Caught(func() int { return deep(100) }); n != 0 || e != api.ErrType {
		t.Errorf("%d, error %d", n, e)
	}
	if l, e := Caught(func() []int { panic(api.ErrFull) }); l != nil || e != api.ErrFull {
		t.Errorf("%v, error %d", l, e)
	}
	outer, e := Caught(func() api.Errno {
		_, inner := Caught(func() int { panic(api.ErrDown) })
		return inner
	})
	if outer != api.ErrDown || e != api.OK {
		t.Errorf("%d, error %d", outer, e)
	}
}

// What is no error of the document's is no answer: it is not hidden.
func TestOther(t *testing.T) {
	defer func() {
		if recover() == nil {
			t.Error("it is hidden")
		}
	}()
	Caught(func() int { panic("other") })
}
