package kinds_test

import (
	"slices"
	"testing"

	"errata/api"
	"errata/kinds"
)

// asked is what both forms of an assertion to T come to: whether the two-valued
// one holds, and the panic of the one-valued one.
func asked[T any](e error) (holds bool, sort int) {
	_, holds = e.(T)
	sort, _ = panicOf(func() { _ = e.(T) })
	return holds, sort
}

// P4.10: which kinds hold which face.
func TestFaces(t *testing.T) {
	all := make([]uint8, 26)
	for i := range all {
		all[i] = uint8(i + 1)
	}
	faces := []struct {
		name  string
		ask   func(error) (bool, int)
		kinds []uint8
	}{
		{"error", asked[error], all},
		{"any", asked[any], all},
		{"Grader", asked[api.Grader], []uint8{1, 11, 19, 25}},
		{"Coder", asked[api.Coder], []uint8{11, 25}},
		{"Weigher", asked[api.Weigher], []uint8{3, 19}},
		{"Phaser", asked[api.Phaser], []uint8{4}},
		{"Timer", asked[api.Timer], []uint8{10, 17}},
		{"TimedError", asked[api.TimedError], []uint8{10, 17}},
		{"Liner", asked[api.Liner], []uint8{18}},
		{"Detailer", asked[api.Detailer], []uint8{12}},
		{"One", asked[api.One], []uint8{14, 15, 25}},
		{"Many", asked[api.Many], []uint8{16, 26}},
		{"Judge", asked[api.Judge], []uint8{21}},
		{"Lender", asked[api.Lender], []uint8{22}},
		{"Kinder", asked[api.Kinder], []uint8{1, 2, 3}},
		{"Sizer", asked[api.Sizer], []uint8{6}},
		{"CodedCause", asked[api.CodedCause], []uint8{25}},
		{"Whole", asked[api.Whole], nil},
		{"Nobody", asked[api.Nobody], nil},
	}
	for _, x := range samples() {
		e := build(t, x.s, x.parts...)
		for _, f := range faces {
			holds, sort := f.ask(e)
			want := slices.Contains(f.kinds, x.s.Kind)
			if holds != want || (sort == api.NoPanic) != want || sort != api.NoPanic && sort != api.RuntimePanic {
				t.Errorf("%+v: %s: %t, panic %d", x.s, f.name, holds, sort)
			}
		}
	}
}

// P4.10: an assertion to a type finds the row's, and no other.
func TestTypes(t *testing.T) {
	types := []struct {
		ask    func(error) (bool, int)
		kind   uint8
		number int16 // a Box's
	}{
		{asked[kinds.Code], 1, 0}, {asked[kinds.Note], 2, 0}, {asked[kinds.Level], 3, 0}, {asked[kinds.Sway], 4, 0}, {asked[kinds.Mark], 5, 0},
		{asked[kinds.Tags], 6, 0}, {asked[kinds.Lazy], 7, 0}, {asked[kinds.Line], 8, 0}, {asked[*kinds.Plain], 9, 0}, {asked[*kinds.Quiet], 10, 0},
		{asked[kinds.Coded], 11, 0}, {asked[kinds.Bag], 12, 0}, {asked[kinds.Hold], 13, 0}, {asked[*kinds.Wrap], 14, 0}, {asked[kinds.Over], 15, 0},
		{asked[*kinds.Join], 16, 0}, {asked[kinds.Timed], 17, 0}, {asked[kinds.Placed], 18, 0}, {asked[kinds.Twin], 19, 0}, {asked[kinds.Veil], 20, 0},
		{asked[*kinds.Echo], 21, 0}, {asked[*kinds.Guise], 22, 0}, {asked[kinds.Box[int8]], 23, 1}, {asked[kinds.Box[float64]], 23, 2},
		{asked[kinds.Box[[]uint8]], 23, 3}, {asked[*kinds.Slow], 24, 0}, {asked[kinds.Full], 25, 0}, {asked[*kinds.Opaque], 26, 0},
	}
	for _, x := range samples() {
		e := build(t, x.s, x.parts...)
		for _, y := range types {
			holds, sort := y.ask(e)
			want := y.kind == x.s.Kind && (y.kind != 23 || y.number == x.s.Number)
			if holds != want || want && sort != api.NoPanic || !want && sort != api.RuntimePanic {
				t.Errorf("%+v: kind %d: %t, panic %d", x.s, y.kind, holds, sort)
			}
		}
	}
}
