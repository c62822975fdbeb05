package machine

import (
	"reflect"
	"testing"

	"pleat/api"
)

// TestBehindTheEnd stands where no image that may be ever gets, so it is asked from inside.
func TestBehindTheEnd(t *testing.T) {
	for _, at := range []int{2, 3, api.MaxText, 1 << 40} {
		m, e := New(api.Image{Text: []uint32{0xA8000000, 0}, Memory: []int64{7}}, []int64{8})
		if e != api.OK {
			t.Fatal("P10.1:", e)
		}
		m.at = at
		want := *m
		want.status = api.FaultEnd
		if s := m.Step(); s != api.FaultEnd || !reflect.DeepEqual(*m, want) {
			t.Errorf("P10.2: a step at the place %d, behind the text's end: %d, %+v; not %d, %+v", at, s, *m, api.FaultEnd, want)
		}
	}
}
