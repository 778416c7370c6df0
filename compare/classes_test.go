package compare_test

import (
	"slices"
	"testing"

	"errata/api"
	"errata/book"
	"errata/compare"
)

// classes is what Classes tells, by the chapter's words alone.
func classes(b *book.Book, row []int) (same [][]int, out []int) {
	for _, h := range row {
		if !mayBeKey(b, h) || told(b, h, h) != api.Same {
			out = append(out, h)
			continue
		}
		i := slices.IndexFunc(same, func(l []int) bool { return told(b, l[0], h) == api.Same })
		if i < 0 {
			i, same = len(same), append(same, nil)
		}
		same[i] = append(same[i], h)
	}
	return same, out
}

// P7.4: rows of all errors.
func TestClasses(t *testing.T) {
	b := all(t)
	hs := some(b)
	var d dice
	groups, outs := 0, 0
	for range 3000 {
		row := make([]int, d.below(40))
		first := d.below(len(hs))
		for i := range row {
			row[i] = hs[(first+d.below(30))%len(hs)]
		}
		want, wantOut := classes(b, row)
		same, out, e := compare.Classes(b, row)
		if !equal(same, want) || !slices.Equal(out, wantOut) || e != api.OK {
			t.Fatalf("Classes(%v): %v, %v, %d; want %v, %v", row, same, out, e, want, wantOut)
		}
		outs += len(out)
		for _, l := range same {
			if slices.Max(l) > slices.Min(l) {
				groups++
			}
		}
	}
	if groups < 1000 || outs < 1000 {
		t.Error(groups, "groups of several errors,", outs, "are out")
	}
	same, out, e := compare.Classes(b, hs)
	want, wantOut := classes(b, hs)
	if !equal(same, want) || !slices.Equal(out, wantOut) || e != api.OK {
		t.Errorf("Classes of many: %d, %d, %d", len(same), len(out), e)
	}
}

// P7.4: the edges: no row, a row of one sort alone, no error, a NaN again and again.
func TestClassesEdges(t *testing.T) {
	b := fourteen(t)
	for i, c := range []struct {
		row  []int
		same [][]int
		out  []int
	}{
		{nil, nil, nil}, {[]int{}, nil, nil},
		{[]int{0}, [][]int{{0}}, nil}, {[]int{0, 9, 0}, [][]int{{0, 0}, {9}}, nil},
		{[]int{3, 3, 3}, nil, []int{3, 3, 3}}, {[]int{4, 4}, nil, []int{4, 4}}, {[]int{10, 13, 5, 10}, nil, []int{10, 13, 5, 10}},
		{[]int{12, 11, 12}, [][]int{{12, 11, 12}}, nil}, {[]int{8, 7, 8}, [][]int{{8, 8}, {7}}, nil},
	} {
		if same, out, e := compare.Classes(b, c.row); !equal(same, c.same) || !slices.Equal(out, c.out) || e != api.OK {
			t.Errorf("row %d: %v, %v, %d", i, same, out, e)
		}
	}
}

// P7.4: a great row, of many classes.
func TestClassesOfMany(t *testing.T) {
	b := book.New()
	const n = 3000
	var row, out []int
	var want [][]int
	for i := range n {
		h := put(t, b, api.Spec{Kind: api.KindCode, Number: int16(i)})
		row = append(row, h)
		want = append(want, []int{h})
	}
	level := put(t, b, api.Spec{Kind: api.KindLevel, Re: nan})
	for i := range 20 * n {
		row = append(row, 1+i*7%n, level)
		want[i*7%n] = append(want[i*7%n], 1+i*7%n)
		out = append(out, level)
	}
	if same, left, e := compare.Classes(b, row); !equal(same, want) || !slices.Equal(left, out) || e != api.OK {
		t.Errorf("Classes of many: %d, %d, %d", len(same), len(left), e)
	}
}

// R3: the lists of an answer share nothing, with one another or with the row.
func TestClassesLists(t *testing.T) {
	b := fourteen(t)
	row, behind := withRoom([]int{2, 4, 7, 1, 3, 0, 5, 7}, -9)
	same, out, _ := compare.Classes(b, row)
	for i := range append(same, out) {
		l := append(same, out)[i]
		for j := len(l); j < cap(l); j++ {
			l[:cap(l)][j] = -7
		}
	}
	if !equal(same, [][]int{{2, 1}, {7, 7}, {0}}) || !slices.Equal(out, []int{4, 3, 5}) {
		t.Errorf("the lists share their room: %v, %v", same, out)
	}
	for _, l := range append(same, out) {
		for j := range l {
			l[j] = -8
		}
	}
	if !slices.Equal(row, []int{2, 4, 7, 1, 3, 0, 5, 7}) || !slices.Equal(behind, []int{-9, -9, -9}) {
		t.Error("the row was changed:", row, behind)
	}
	if again, out, _ := compare.Classes(b, row); !equal(again, [][]int{{2, 1}, {7, 7}, {0}}) || !slices.Equal(out, []int{4, 3, 5}) {
		t.Error("an answer was changed:", again, out)
	}
}
