package bitset

import (
	"fmt"
	"slices"
	"testing"
)

// A nil set has no room and no numbers; what changes it does nothing, and is false.
func TestP1401Nil(t *testing.T) {
	var b *Bits
	hold(t, "nil", b, 0, nil)
	for _, i := range slices.Concat(edges(0), ends()) {
		if b.Put(i) || b.Take(i) || b.Has(i) {
			t.Errorf("of nil Put(%d), Take(%d), or Has(%d) is true", i, i, i)
		}
	}
	if b.Or(b) || b.Or(nil) || b.Meets(b) || b.Meets(nil) {
		t.Error("of nil and nil Or, or Meets, is true")
	}
	if c := b.Copy(); c != nil {
		t.Errorf("Copy of nil is %v", c)
	}
	if b.Key() != empty(t, 0).Key() || b.Key() != empty(t, 100).Key() {
		t.Errorf("nil has the key %q", b.Key())
	}
	hold(t, "nil, behind all that", b, 0, nil)
}

// Nil and another set, handed to each other.
func TestP1401NilAndOthers(t *testing.T) {
	for _, n := range rooms() {
		for _, l := range [][]int{nil, fitting(n)} {
			var none *Bits
			b := with(t, n, l...)
			name := fmt.Sprintf("nil and %s in room for %d", brief(l), n)
			if b.Or(nil) || none.Or(b) || b.Or(none) {
				t.Errorf("%s: Or is true", name)
			}
			if b.Meets(nil) || none.Meets(b) || b.Meets(none) {
				t.Errorf("%s: Meets is true", name)
			}
			hold(t, name, b, n, l)
			hold(t, name+": nil", none, 0, nil)
			if same := none.Key() == b.Key(); same != (len(l) == 0) {
				t.Errorf("%s: that they have one key is %t", name, same)
			}
		}
	}
}

// A set without room holds nothing, whatever is put.
func TestP1402NoRoom(t *testing.T) {
	b := empty(t, 0)
	for _, i := range slices.Concat(edges(0), ends()) {
		if b.Put(i) || b.Take(i) || b.Has(i) {
			t.Errorf("without room Put(%d), Take(%d), or Has(%d) is true", i, i, i)
		}
	}
	full := with(t, 130, upTo(0, 130)...)
	if b.Or(full) || full.Or(b) || b.Meets(full) || full.Meets(b) || b.Or(b) || b.Meets(b) {
		t.Error("without room Or, or Meets, is true")
	}
	hold(t, "without room", b, 0, nil)
	hold(t, "the other set", full, 130, upTo(0, 130))
	hold(t, "the copy of one without room", b.Copy(), 0, nil)
}
