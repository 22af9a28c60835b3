package topic_test

import (
	"reflect"
	"testing"
	"unsafe"

	"postrider/api"
	"postrider/part"
	"postrider/topic"
)

// The greatest tail lies 2^40 calls away: the windows here are set there, not brought there. They are another package's own, so that the field has to be found by its name.

// headAt moves the head of an empty window.
func headAt(t *testing.T, x *part.Part, head int) {
	t.Helper()
	field := reflect.ValueOf(x.Ring).Elem().FieldByName("head")
	if !field.IsValid() || field.Kind() != reflect.Int {
		t.Fatal("the field that this test sets has another name, or kind")
	}
	reflect.NewAt(field.Type(), unsafe.Pointer(field.UnsafeAddr())).Elem().SetInt(int64(head))
}

// unfit is what a claim that is refused has to tell.
func unfit(t *testing.T, s *topic.Set, n int, want api.Errno) {
	t.Helper()
	free := s.Pool().Free()
	p, offset, h, e := s.Claim("a", []byte{3}, n)
	same(t, "Claim", answers(p, offset, h, e), answers(api.Place{}, 0, 0, want))
	same(t, "free ones", s.Pool().Free(), free)
}

// 13.2, P2: the last place of a partition is the one ahead of MaxOffset; behind it none is claimed there any more, but in the others.
func TestGreatestTail(t *testing.T) {
	for _, policy := range policies {
		s := made(t, 4, 2)
		opened(t, s, "a", 3, 2, policy)
		x := at(t, s, 0, 1)
		headAt(t, x, api.MaxOffset-1)
		p, offset, h := claimed(t, s, "a", []byte{3}, 1)
		same(t, "place", answers(p, offset, h), answers(api.Place{Part: 1}, api.MaxOffset-1, 1))
		for range 2 { // not published, and published
			unfit(t, s, 1, api.ErrFull)
			unfit(t, s, -1, api.ErrArg)
			unfit(t, s, 3, api.ErrLong)
			same(t, "head, tail", answers(x.Head(), x.Tail()), answers(api.MaxOffset-1, api.MaxOffset))
			x.Publish(api.MaxOffset - 1)
		}
		trimmed(t, x)
		unfit(t, s, 1, api.ErrFull)
		_, offset, _ = claimed(t, s, "a", []byte{0}, 1)
		same(t, "offset elsewhere", offset, 0)
	}
}
